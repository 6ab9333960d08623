/- The specification's reader of schemas: a field. -/
import Derived.Test.YtnfoinmccigdfaaGreatDoorRdBoth
import Derived.Test.YtnfoinmccigdfaaGreatDoorSpSchemaTwo
import Derived.Deep.CutRange
import Derived.Deep.CutBlock
namespace Go.Proofs.YtnfoinmccigdfaaGreatDoor
open Go.ChangeShapes Go.WideShapes Go.ChangeAt Go.RowKit
set_option linter.unusedVariables false

theorem isB_lt {k : Int} {t : ByteArray} {l : List Tk} {i : Nat} (h : isB k t l i = true) : i < l.length := by
  unfold isB at h
  rw [Bool.and_eq_true, Bool.and_eq_true, decide_eq_true_eq] at h
  exact h.1.1
theorem nmB_lt {l : List Tk} {i : Nat} (h : nmB l i = true) : i < l.length := by
  unfold nmB at h
  rw [Bool.and_eq_true, decide_eq_true_eq] at h
  exact h.1
theorem adv_isB {k : Int} {t : ByteArray} {l : List Tk} {i m : Nat} (h : i ≤ m) (hm : l.length ≤ m) : adv (isB k t l i) i ≤ m := by
  cases hb : isB k t l i with
  | false => exact h
  | true => have := isB_lt hb; show i + 1 ≤ m; omega
theorem adv_nmB {l : List Tk} {i m : Nat} (h : i ≤ m) (hm : l.length ≤ m) : adv (nmB l i) i ≤ m := by
  cases hb : nmB l i with
  | false => exact h
  | true => have := nmB_lt hb; show i + 1 ≤ m; omega
theorem adv_t (j : Nat) : adv true j = j + 1 := rfl
theorem adv_f (j : Nat) : adv false j = j := rfl
theorem isB_int {l : List Tk} (h : TkOk l) (i : Nat) : (isB 1 ⟨#[73, 110, 116]⟩ l i = true ∧ (nmI l i).toList = (⟨#[73, 110, 116]⟩ : ByteArray).toList) ∨ (isB 1 ⟨#[73, 110, 116]⟩ l i = false ∧ (nmI l i).toList ≠ (⟨#[73, 110, 116]⟩ : ByteArray).toList) := by
  have hne : (⟨#[73, 110, 116]⟩ : ByteArray).toList ≠ [] := by rw [ByteArray.toList_eq]; simp
  unfold isB nmI nxT
  by_cases hi : i < l.length
  · rw [List.getElem?_eq_getElem hi, decide_eq_true hi]
    by_cases hk : l[i].k = 1
    · simp only [hk, if_true, Bool.true_and, beq_self_eq_true]
      by_cases ht : l[i].t.toList = (⟨#[73, 110, 116]⟩ : ByteArray).toList
      · exact .inl ⟨by rw [beq_iff_eq]; exact ht, ht⟩
      · exact .inr ⟨by rw [beq_eq_false_iff_ne]; exact ht, ht⟩
    · have hkb : (l[i].k == 1) = false := by rw [beq_eq_false_iff_ne]; exact hk
      refine .inr ⟨by simp [hkb], ?_⟩
      simp only [hk, if_false]
      intro e
      exact hne (e.symm.trans (by rw [ByteArray.toList_eq]))
  · rw [List.getElem?_eq_none (by omega), decide_eq_false hi]
    refine .inr ⟨rfl, ?_⟩
    simp only
    rw [if_neg (by decide)]
    intro e
    exact hne (e.symm.trans (by rw [ByteArray.toList_eq]))
/-- An argument: what the four looks tell. -/
theorem ag_looks {l : List Tk} (h : TkOk l) {j : Nat} {b1 b2 b3 b4 : Bool} (h1 : b1 = nmB l j) (h2 : b2 = isB 4 ⟨#[58]⟩ l (adv b1 j)) (h3 : b3 = isB 1 ⟨#[73, 110, 116]⟩ l (adv b2 (adv b1 j))) (h4 : b4 = isB 4 ⟨#[33]⟩ l (adv b2 (adv b1 j) + 1)) :
    ((b3 && (b2 && b1)) = true → pAg l j = some (⟨nmI l j, b4⟩, adv b4 (adv b2 (adv b1 j) + 1))) ∧ ((b3 && (b2 && b1)) = false → pAg l j = none) := by
  rcases nmB_nm h j with ⟨e1, e1'⟩ | ⟨e1, e1'⟩
  · rw [e1] at h1
    subst h1
    rw [isB_tk h] at h2
    cases b2 with
    | false =>
      refine ⟨fun q => by simp at q, fun _ => ?_⟩
      simp only [adv_t] at h2
      unfold pAg
      rw [if_neg e1', if_pos h2.symm]
    | true =>
      rcases isB_int h (adv true (adv true j)) with ⟨e3, e3'⟩ | ⟨e3, e3'⟩
      · rw [e3] at h3
        subst h3
        rw [isB_tk h] at h4
        refine ⟨fun _ => ?_, fun q => by simp at q⟩
        simp only [adv_t] at h2 h4 e3' ⊢
        unfold pAg
        rw [if_neg e1', if_neg (by rw [← h2]; decide), if_neg (by intro q; exact q e3'), ← h4]
      · rw [e3] at h3
        subst h3
        refine ⟨fun q => by simp at q, fun _ => ?_⟩
        simp only [adv_t] at h2 e3'
        unfold pAg
        rw [if_neg e1', if_neg (by rw [← h2]; decide), if_pos e3']
  · rw [e1] at h1
    subst h1
    refine ⟨fun q => by simp at q, fun _ => ?_⟩
    unfold pAg
    rw [if_pos e1']
/-- Arguments up to the mark: none read is a fault. -/
theorem ags_none {l : List Tk} (h : TkOk l) {j k : Nat} (hm : Many (rpar l) (agOne l) j (some ([], k))) : AgsR l j none := by
  cases hm with
  | stop h1 =>
    refine .inl ⟨?_, rfl⟩
    unfold pAg
    rw [if_pos]
    rcases nmB_nm h j with ⟨e1, _⟩ | ⟨_, e1⟩
    · exfalso
      unfold rpar at h1
      rw [← isB_tk h] at h1
      unfold nmB at e1
      unfold isB at h1
      simp only [Bool.and_eq_true, beq_iff_eq] at e1 h1
      rw [e1.2] at h1
      exact absurd h1.1.2 (by decide)
    · exact e1
theorem ags_some {l : List Tk} {j k : Nat} {xs : List G.Ag} (hm : Many (rpar l) (agOne l) j (some (xs, k))) (hx : xs ≠ []) : AgsR l j (some (xs, k)) := by
  cases hm with
  | stop h1 => exact absurd rfl hx
  | more h1 h2 h3 => exact .inr ⟨_, _, _, h2.symm, h3, rfl⟩
theorem ags_bad {l : List Tk} (h : TkOk l) {j : Nat} (hm : Many (rpar l) (agOne l) j none) : AgsR l j none := by
  cases hm with
  | bad h1 h2 => exact .inl ⟨h2.symm, rfl⟩
  | next h1 h2 h3 => exact .inr ⟨_, _, none, h2.symm, h3, rfl⟩
/-- The end of a field: what its looks tell. -/
theorem fd_list {l : List Tk} (h : TkOk l) {i j : Nat} {nm : ByteArray} {args : List G.Ag} {ok c1 c3 c4 c5 : Bool} (hE : ok = true → ∀ r, r = pFdT nm args l j → FdR l i r) (hN : ok = false → FdR l i none)
    (h1 : c1 = isB 4 ⟨#[58]⟩ l j) (h2 : true = isB 4 ⟨#[91]⟩ l (adv c1 j)) (h3 : c3 = nmB l (adv true (adv c1 j))) (h4 : c4 = isB 4 ⟨#[93]⟩ l (adv c3 (adv true (adv c1 j)))) (h5 : c5 = isB 4 ⟨#[33]⟩ l (adv c4 (adv c3 (adv true (adv c1 j))))) :
    ((c4 && (c3 && (c1 && ok))) = true → FdR l i (some (⟨nm, args, nmI l (adv true (adv c1 j)), true, c5⟩, adv c5 (adv c4 (adv c3 (adv true (adv c1 j))))))) ∧ ((c4 && (c3 && (c1 && ok))) = false → FdR l i none) := by
  cases ok with
  | false => exact ⟨fun q => by simp at q, fun _ => hN rfl⟩
  | true =>
    rw [isB_tk h] at h1
    cases c1 with
    | false => exact ⟨fun q => by simp at q, fun _ => hE rfl _ (by unfold pFdT; rw [if_pos h1.symm])⟩
    | true =>
      rw [isB_tk h] at h2
      have n1 : ¬ tkE (nxT l j) ⟨4, 0, ⟨#[58]⟩⟩ = false := by rw [← h1]; decide
      rcases nmB_nm h (adv true (adv true j)) with ⟨e3, e3'⟩ | ⟨e3, e3'⟩
      · rw [e3] at h3
        subst h3
        rw [isB_tk h] at h4
        have n2 : tkE (nxT l (j + 1)) ⟨4, 0, ⟨#[91]⟩⟩ = true := h2.symm
        cases c4 with
        | false =>
          simp only [adv_t] at h4 e3'
          exact ⟨fun q => by simp at q, fun _ => hE rfl _ (by simp [pFdT, adv, ← h1, n2, e3', ← h4])⟩
        | true =>
          rw [isB_tk h] at h5
          refine ⟨fun _ => hE rfl _ ?_, fun q => by simp at q⟩
          simp only [adv_t] at h4 h5 e3' ⊢
          simp [pFdT, adv, ← h1, n2, e3', ← h4, ← h5]
      · rw [e3] at h3
        subst h3
        simp only [adv_t] at e3'
        have n2 : tkE (nxT l (j + 1)) ⟨4, 0, ⟨#[91]⟩⟩ = true := h2.symm
        exact ⟨fun q => by simp at q, fun _ => hE rfl _ (by simp [pFdT, adv, ← h1, n2, e3'])⟩
theorem fd_plain {l : List Tk} (h : TkOk l) {i j : Nat} {nm : ByteArray} {args : List G.Ag} {ok c1 c3 c5 : Bool} (hE : ok = true → ∀ r, r = pFdT nm args l j → FdR l i r) (hN : ok = false → FdR l i none)
    (h1 : c1 = isB 4 ⟨#[58]⟩ l j) (h2 : false = isB 4 ⟨#[91]⟩ l (adv c1 j)) (h3 : c3 = nmB l (adv false (adv c1 j))) (h5 : c5 = isB 4 ⟨#[33]⟩ l (adv c3 (adv false (adv c1 j)))) :
    ((c3 && (c1 && ok)) = true → FdR l i (some (⟨nm, args, nmI l (adv false (adv c1 j)), false, c5⟩, adv c5 (adv c3 (adv false (adv c1 j)))))) ∧ ((c3 && (c1 && ok)) = false → FdR l i none) := by
  cases ok with
  | false => exact ⟨fun q => by simp at q, fun _ => hN rfl⟩
  | true =>
    rw [isB_tk h] at h1
    cases c1 with
    | false => exact ⟨fun q => by simp at q, fun _ => hE rfl _ (by unfold pFdT; rw [if_pos h1.symm])⟩
    | true =>
      rw [isB_tk h] at h2
      have n1 : ¬ tkE (nxT l j) ⟨4, 0, ⟨#[58]⟩⟩ = false := by rw [← h1]; decide
      have n2 : tkE (nxT l (j + 1)) ⟨4, 0, ⟨#[91]⟩⟩ = false := h2.symm
      rcases nmB_nm h (adv false (adv true j)) with ⟨e3, e3'⟩ | ⟨e3, e3'⟩
      · rw [e3] at h3
        subst h3
        rw [isB_tk h] at h5
        refine ⟨fun _ => hE rfl _ ?_, fun q => by simp at q⟩
        simp only [adv_t, adv_f] at h5 e3' ⊢
        simp [pFdT, adv, ← h1, n2, e3', ← h5]
      · rw [e3] at h3
        subst h3
        simp only [adv_t, adv_f] at e3'
        exact ⟨fun q => by simp at q, fun _ => hE rfl _ (by simp [pFdT, adv, ← h1, n2, e3'])⟩
/-- A field while the specification reads it. -/
structure FsS (dp : Bool) (w : World) (L R A : Nat) (a : Option Addr) (c : Nat) (l : List Tk) (j : Nat) (ok : Bool) (args : List G.Ag) (av : Value) (cs : Array Value) (W : World) : Prop where
  rd : RsSt W L a c l j ok dp
  r : W.heap[R]? = some (.cells fdZ 53 (0, 0))
  bx : W.heap[A]? = some (.cells cs 53 (0, 0))
  gr : w.grownBy W (some L)
  own : W.ownsRow w.heap.size 79 2 av args.length (agVs args)
  hL : L < w.heap.size
  hR : w.heap.size ≤ R
  hA : R < A
theorem FsS.call {dp : Bool} {w : World} {L R A c j j' : Nat} {ok ok' : Bool} {a : Option Addr} {l : List Tk} {args : List G.Ag} {av : Value} {cs : Array Value} {W W' : World} (h : FsS dp w L R A a c l j ok args av cs W) (hr : RsSt W' L a c l j' ok' dp) (hg : W.grownBy W' (some L)) : FsS dp w L R A a c l j' ok' args av cs W' :=
  ⟨hr, grown_keeps h.r (Array.getElem?_eq_some_iff.1 h.r).1 hg (by have := h.hL; have := h.hR; omega), grown_keeps h.bx (Array.getElem?_eq_some_iff.1 h.bx).1 hg (by have := h.hL; have := h.hR; have := h.hA; omega), grown_trans h.gr hg, own_grown h.own hg h.hL, h.hL, h.hR, h.hA⟩
theorem FsS.put {dp : Bool} {w : World} {L R A c j : Nat} {ok : Bool} {a : Option Addr} {l : List Tk} {args : List G.Ag} {av : Value} {cs : Array Value} {W : World} (h : FsS dp w L R A a c l j ok args av cs W) (o : Nat) (v : Value) : FsS dp w L R A a c l j ok args av (cs.setIfInBounds o v) (W.setCell ⟨A, o, none⟩ v) := by
  have h1 := h.hL
  have h2 := h.hR
  have h3 := h.hA
  refine ⟨h.rd.keep fun g hg => heap_setCell_other _ _ _ _ (by show g ≠ A; omega), ?_, row_set h.bx o v, grown_new h.gr (by omega) _, ?_, h1, h2, h3⟩
  · rw [heap_setCell_other _ _ _ _ (by show R ≠ A; omega)]; exact h.r
  · refine ⟨h.own.1, ?_⟩
    rcases h.own.2 with h0 | ⟨g, cap, cur, rfl, q1, q2, q3⟩
    · exact .inl h0
    · refine .inr ⟨g, cap, cur, rfl, q1, ?_, q3⟩
      rw [heap_setCell_other _ _ _ _ (by
        show g ≠ A
        intro e
        rw [e, h.bx] at q2
        simp at q2)]
      exact q2
/-- The reader's own cells written: its place, whether all was well. -/
theorem FsS.at_ {dp : Bool} {w : World} {L R A c j : Nat} {ok : Bool} {a : Option Addr} {l : List Tk} {args : List G.Ag} {av : Value} {cs : Array Value} {W : World} (h : FsS dp w L R A a c l j ok args av cs W) (j' : Nat) : FsS dp w L R A a c l j' ok args av cs (W.setCell ⟨L, 1, none⟩ (.int .i64 j')) :=
  h.call (h.rd.at_ j') (grown_set (grown_refl W _) _ _)
theorem FsS.ok_ {dp : Bool} {w : World} {L R A c j : Nat} {ok : Bool} {a : Option Addr} {l : List Tk} {args : List G.Ag} {av : Value} {cs : Array Value} {W : World} (h : FsS dp w L R A a c l j ok args av cs W) (b : Bool) : FsS dp w L R A a c l j b args av cs (W.setCell ⟨L, 2, none⟩ (.bool b)) :=
  h.call (h.rd.ok_ b) (grown_set (grown_refl W _) _ _)
theorem FsS.below {dp : Bool} {w : World} {L R A c j : Nat} {ok : Bool} {a : Option Addr} {l : List Tk} {args : List G.Ag} {av : Value} {cs : Array Value} {W W' : World} (h : FsS dp w L R A a c l j ok args av cs W) (hb : Below W.heap.size W W') : FsS dp w L R A a c l j ok args av cs W' :=
  h.call (h.rd.below hb) (grown_below (grown_refl W _) hb)
/-- A box beside it written. -/
theorem FsS.far {dp : Bool} {w : World} {L R A c j : Nat} {ok : Bool} {a : Option Addr} {l : List Tk} {args : List G.Ag} {av : Value} {cs : Array Value} {W : World} (h : FsS dp w L R A a c l j ok args av cs W) {E : Nat} (hE : A < E) (ho : ∀ q, av.ownBlock = some q → q < E) (o : Nat) (v : Value) : FsS dp w L R A a c l j ok args av cs (W.setCell ⟨E, o, none⟩ v) := by
  have h1 := h.hL
  have h2 := h.hR
  have h3 := h.hA
  refine ⟨h.rd.keep fun g hg => heap_setCell_other _ _ _ _ (by show g ≠ E; omega), ?_, ?_, grown_new h.gr (by omega) _, ?_, h1, h2, h3⟩
  · rw [heap_setCell_other _ _ _ _ (by show R ≠ E; omega)]; exact h.r
  · rw [heap_setCell_other _ _ _ _ (by show A ≠ E; omega)]; exact h.bx
  · exact own_keepT h.own fun q hq => heap_setCell_other _ _ _ _ (by have := ho q hq; show q ≠ E; omega)
theorem FsS.push {dp : Bool} {w : World} {L R A c j cV : Nat} {ok : Bool} {a aV : Option Addr} {l : List Tk} {g : List G.Ag} {cs : Array Value} {Y : World} (h : FsS dp w L R A a c l j ok g (.slice aV g.length cV) cs Y) (y : G.Ag) (hl : g.length + 1 ≤ 1048580) :
    ∃ g8 cap8 W8, (Builtin.append_ #[51, 51] 51 #[.slice aV g.length cV, .slice (some ⟨Y.heap.size, 0, none⟩) 1 1]).run Tryz.prog (Y.alloc (.cells #[.string y.nm, .bool y.need] 79)) = .ok (.slice (some ⟨g8, 0, none⟩) (g.length + 1) cap8) W8 ∧ FsS dp w L R A a c l j ok (g ++ [y]) (.slice (some ⟨g8, 0, none⟩) (g ++ [y]).length cap8) cs W8 := by
  obtain ⟨ig, hig, hzg, hsg, hbg⟩ := info_agd
  obtain ⟨U, hU⟩ : ∃ U, U = Y.alloc (.cells #[.string y.nm, .bool y.need] 79) := ⟨_, rfl⟩
  have BU : Below Y.heap.size Y U := by rw [hU]; exact (Below.refl _ _).alloc (Nat.le_refl _) _
  have cU : U.heap[Y.heap.size]? = some (.cells #[.string y.nm, .bool y.need] 79 (0, 0)) := by rw [hU]; exact heap_alloc_new _ _
  have O3 : U.ownsRow w.heap.size 79 2 (.slice aV g.length cV) g.length (agVs g) := by rw [hU]; exact h.own.alloc _
  have gs := h.gr.size
  have hsz := BU.size
  obtain ⟨g8, cap8, W8, hrun, o8, gr8, hat8, hlt8⟩ := run_append_lies (P := Tryz.prog) U 51 51 w.heap.size 79 ig _ 2 24 Tryz.underlying51 hig hzg hsg hbg rfl (by decide) (.slice aV g.length cV) g.length (agVs g) O3 ⟨Y.heap.size, 0, none⟩ 1 1 [.string y.nm, .bool y.need] rfl (fun t u ht => by
    rw [add_plain]
    have := row_cell cU (0 + t)
    rw [this, ← ht]
    simp) (fun u hu => by
      simp only [List.mem_cons, List.not_mem_nil, or_false] at hu
      rcases hu with rfl | rfl <;> rfl) (by omega) (by unfold maxLen; omega) (by omega) (by omega) _ rfl
  rw [← hU]
  refine ⟨g8, cap8, W8, hrun, ?_⟩
  have off : ∀ q, (Value.slice aV g.length cV).ownBlock = some q → w.heap.size ≤ q := fun q hq => (World.ownsRow.lt O3 q hq).1
  have kp : ∀ q, q < Y.heap.size → (Value.slice aV g.length cV).ownBlock ≠ some q → W8.heap[q]? = Y.heap[q]? := fun q h1 h2 => (gr8.block q (by omega) (fun e => h2 e.symm)).trans (BU.block q h1)
  have hL := h.hL
  have nty : ∀ q cs, Y.heap[q]? = some (.cells cs 53 (0, 0)) → (Value.slice aV g.length cV).ownBlock ≠ some q := fun q cs hc he => by
    rcases h.own.2 with ⟨e1, _⟩ | ⟨g1, c1, u1, e1, _, q1, _⟩
    · rw [e1] at he; simp [Value.ownBlock] at he
    · rw [e1] at he
      simp only [Value.ownBlock, Option.some.injEq] at he
      rw [he, hc] at q1
      simp at q1
  refine ⟨h.rd.keep fun q hq => kp q (by have := h.rd.lt; omega) (fun e => by have := off q e; omega), (kp R (Array.getElem?_eq_some_iff.1 h.r).1 (nty R _ h.r)).trans h.r, (kp A (Array.getElem?_eq_some_iff.1 h.bx).1 (nty A _ h.bx)).trans h.bx, grown_append (grown_below h.gr BU) gr8 off, ?_, hL, h.hR, h.hA⟩
  rw [agVs_snoc, List.length_append]; exact o8
theorem rsPos_of {w : World} {L c i : Nat} {a : Option Addr} {l : List Tk} {ok dp : Bool} (h : RsSt w L a c l i ok dp) : rdPos w L = i := by
  have c1 : w.cell? ⟨L, 1, none⟩ = some (.int .i64 i) := row_cell h.cell 1
  unfold rdPos; rw [c1]; simp
theorem adv_ge (b : Bool) (j : Nat) : j ≤ adv b j := by cases b with | false => exact Nat.le_refl _ | true => exact Nat.le_succ _
/-- A field is told, its arguments a row of its own; whether all was well says whether there is one. -/
def FsIs (dp : Bool) (L : Nat) (a : Option Addr) (c : Nat) (l : List Tk) (i : Nat) (w : World) (e : Ending) (w' : World) : Prop :=
  ∃ (x : G.Fd) (j : Nat) (ok : Bool) (av : Value), e = .returned (fdV x av) ∧ w'.ownsRow w.heap.size 79 2 av x.args.length (agVs x.args) ∧ RsSt w' L a c l j ok dp ∧ w.grownBy w' (some L) ∧ j ≤ l.length + 1 ∧ (ok = true → j ≤ l.length ∧ FdR l i (some (x, j))) ∧ (ok = false → FdR l i none)
theorem results_sfield (tmps : Array Value) (W : World) (N : Nat) (cs : Array Value) (h2 : tmps.getD 2 undef = .pointer (some ⟨N, 0, none⟩)) (hrow : W.heap[N]? = some (.cells cs 53 (0, 0))) (hsz : cs.size = 5) :
    (results Tryz.f23 tmps).run Tryz.prog W = .ok (.agg cs) W := by
  have c39 : (Tryz.prog.info? 53).map (·.size) = some 5 := by kernel_rfl
  exact results_cell_row Tryz.results23 tmps W N 53 cs (0, 0) _ h2 hrow Tryz.underlying53 rfl (by rw [hsz]; exact c39)
set_option maxHeartbeats 8000000 in
theorem ss_field (dp : Bool) (L c i : Nat) (a : Option Addr) (l : List Tk) (w : World) (h : RsSt w L a c l i true dp) (hi : i ≤ l.length) (hl : l.length ≤ 1048576) (htk : TkOk l) :
    Calls Tryz.prog 23 #[.pointer (some ⟨L, 0, none⟩)] w (FsIs dp L a c l i w) := by
  obtain ⟨V, hV⟩ : ∃ V, V = w.alloc (.cells fdZ 53) := ⟨_, rfl⟩
  have BV : Below w.heap.size w V := by rw [hV]; exact (Below.refl _ _).alloc (Nat.le_refl _) _
  have cV : V.heap[w.heap.size]? = some (.cells fdZ 53 (0, 0)) := by rw [hV]; exact heap_alloc_new _ _
  have zV : w.heap.size < V.heap.size := by rw [hV]; simp
  have hLw := h.lt
  have HQ : Hid _ := rs_name L c i a l true dp V (h.below BV) (by omega)
  have GV : Hid (w.grownBy V (some L)) := grown_below (grown_refl w _) BV
  have HCV : Hid _ := cV
  clear h BV cV
  go_enter Tryz.func23, Tryz.ntmps23
  go_upto_region 1 with fail
  rw [← hV]
  clear hV
  go_wp2_with fail
  refine Calls.mono HQ.out ?_
  rintro e w1 ⟨rfl, s1, g1⟩
  have z1 := g1.size
  obtain ⟨b0, hb0⟩ : ∃ b, b = nmB l i := ⟨_, rfl⟩
  obtain ⟨nm, hnm⟩ : ∃ z, z = nmI l i := ⟨_, rfl⟩
  rw [← hb0, Bool.and_true] at s1
  have HB0 : Hid (b0 = nmB l i) := hb0
  have HNM : Hid (nm = nmI l i) := hnm
  go_upto_region 2 with fail
  rw [← hnm]
  obtain ⟨U, hU⟩ : ∃ U, U = (w1.alloc (.cells #[] 79)).alloc (.cells #[.string nm, .slice (some ⟨w1.heap.size, 0, none⟩) 0 0, .string ⟨#[]⟩, .bool false, .bool false] 53) := ⟨_, rfl⟩
  rw [← hU]
  have BU : Below w1.heap.size w1 U := by rw [hU]; exact ((Below.refl _ _).alloc (Nat.le_refl _) _).alloc (by simp) _
  obtain ⟨j0, hj0⟩ : ∃ z, z = adv b0 i := ⟨_, rfl⟩
  rw [← hj0] at s1
  have HJ0 : Hid (j0 ≤ l.length ∧ (b0 = true → j0 = i + 1)) := by
    refine ⟨by rw [hj0, hb0]; exact adv_nmB hi (Nat.le_refl _), fun q => ?_⟩
    rw [hj0, q]; rfl
  have hgw : U.heap[w1.heap.size]? = some (.cells #[] 79 (0, 0)) := by rw [hU, Below.heap_alloc _ _ _ (by simp)]; exact heap_alloc_new _ _
  have F0 : Hid (FsS dp w L w.heap.size (w1.heap.size + 1) a c l j0 b0 [] (.slice (some ⟨w1.heap.size, 0, none⟩) ([] : List G.Ag).length 0) #[.string nm, .slice (some ⟨w1.heap.size, 0, none⟩) ([] : List G.Ag).length 0, .string ⟨#[]⟩, .bool false, .bool false] U) := by
    refine ⟨s1.below BU, (BU.block _ (by omega)).trans (grown_keeps HCV.out zV g1 (by omega)), ?_, grown_below (grown_trans GV.out g1) BU, ⟨rfl, .inr ⟨w1.heap.size, 0, #[], rfl, by omega, hgw, Nat.le_refl _, Nat.zero_le _, rfl, by simp [agVs]⟩⟩, hLw, Nat.le_refl _, by omega⟩
    rw [hU]
    have := heap_alloc_new (w1.alloc (.cells #[] 79)) (.cells #[.string nm, .slice (some ⟨w1.heap.size, 0, none⟩) 0 0, .string ⟨#[]⟩, .bool false, .bool false] 53)
    simpa using this
  obtain ⟨A, hA⟩ : ∃ z, z = w1.heap.size + 1 := ⟨_, rfl⟩
  rw [← hA] at F0 ⊢
  obtain ⟨aZ, haZ⟩ : ∃ z : Option Addr, z = some ⟨w1.heap.size, 0, none⟩ := ⟨_, rfl⟩
  rw [← haZ] at F0 ⊢
  clear HQ HCV GV hnm BU hU hA haZ hgw s1 g1 hb0 hj0 z1
  have hj0l := HJ0.out.1
  have HQ2 : Hid _ := rs_take ⟨#[40]⟩ L c j0 a l b0 dp U F0.out.rd (by omega)
  obtain ⟨r0, HR0⟩ : ∃ r, Hid (r = isB 4 ⟨#[40]⟩ l j0) := ⟨_, rfl⟩
  rw [← HR0.out] at HQ2
  go_wp2_with fail
  refine Calls.mono HQ2.out ?_
  rintro e w2 ⟨rfl, s2, g2⟩
  have F2 : Hid _ := F0.out.call s2 g2
  clear s2 g2 HQ2 F0
  go_upto_if 10 with fail
  have HB1 : Hid (b0 = true → (nmI l i).toList ≠ []) := fun q => by
    rcases nmB_nm htk i with ⟨_, e⟩ | ⟨e, _⟩
    · exact e
    · rw [← HB0.out, q] at e; cases e
  have HB2 : Hid (b0 = false → FdR l i none) := fun q => by
    rcases nmB_nm htk i with ⟨e, _⟩ | ⟨_, e⟩
    · rw [← HB0.out, q] at e; cases e
    · exact .inl ⟨e, rfl⟩
  have HTK : Hid (TkOk l) := htk
  have HR1 : Hid (r0 = tkE (nxT l j0) ⟨4, 0, ⟨#[40]⟩⟩) := by rw [Hid, HR0.out, isB_tk HTK.out]
  clear htk
  go_cut [4] from 11 to 64 (fun _ wx => ∃ (g : List G.Ag) (aV : Option Addr) (cV j : Nat) (ok : Bool), Hid (FsS dp w L w.heap.size A a c l j ok g (.slice aV g.length cV) #[.string nm, .slice aV g.length cV, .string ⟨#[]⟩, .bool false, .bool false] wx) ∧ Hid (j ≤ l.length + 1) ∧ Hid (ok = true → j ≤ l.length) ∧ Hid (ok = true → ∀ r, r = pFdT nm g l j → FdR l i r) ∧ Hid (ok = false → FdR l i none))
  case first =>
    cases r0 with
    | false =>
      have F3 : Hid (FsS dp w L w.heap.size A a c l j0 b0 [] (.slice aZ ([] : List G.Ag).length 0) #[.string nm, .slice aZ ([] : List G.Ag).length 0, .string ⟨#[]⟩, .bool false, .bool false] w2) := F2.out
      have HE : Hid (b0 = true → ∀ r, r = pFdT nm [] l j0 → FdR l i r) := fun q r hr => .inr ⟨HB1.out q, .inl ⟨by rw [← HJ0.out.2 q]; exact HR1.out.symm, by rw [hr, HNM.out, HJ0.out.2 q]⟩⟩
      clear F2 HR0 HR1
      go_wp2_with fail
      go_meet
      exact ⟨[], aZ, 0, j0, b0, F3, (by show j0 ≤ l.length + 1; omega), fun _ => hj0l, HE, HB2⟩
    | true =>
      have HJ1 : Hid (j0 < l.length) := isB_lt HR0.out.symm
      have hj1 := HJ1.out
      obtain ⟨j1, hj1'⟩ : ∃ z, z = j0 + 1 := ⟨_, rfl⟩
      have F3 : Hid (FsS dp w L w.heap.size A a c l j1 b0 [] (.slice aZ ([] : List G.Ag).length 0) #[.string nm, .slice aZ ([] : List G.Ag).length 0, .string ⟨#[]⟩, .bool false, .bool false] w2) := by rw [hj1']; exact F2.out
      have HJJ : Hid (b0 = true → j1 = i + 1 + 1) := fun q => by rw [hj1', HJ0.out.2 q]
      have HRT : Hid (b0 = true → tkE (nxT l (i + 1)) ⟨4, 0, ⟨#[40]⟩⟩ = true) := fun q => by rw [← HJ0.out.2 q]; exact HR1.out.symm
      have hj1l : j1 ≤ l.length := by omega
      clear F2 HR0 HR1 hj1'
      go_wp2_with fail
      go_loopw [4] (fun _ w' => ∃ (g : List G.Ag) (aV : Option Addr) (cV j : Nat) (ok : Bool), Hid (FsS dp w L w.heap.size A a c l j ok g (.slice aV g.length cV) #[.string nm, .slice aV g.length cV, .string ⟨#[]⟩, .bool false, .bool false] w') ∧ j ≤ l.length + 1 ∧ g.length ≤ j ∧ Hid (ok = true → j ≤ l.length ∧ b0 = true ∧ ∀ r, Many (rpar l) (agOne l) j r → Many (rpar l) (agOne l) j1 (ahead g r)) ∧ Hid (ok = false → b0 = false ∨ Many (rpar l) (agOne l) j1 none)) (fun _ w' => l.length + 2 - rdPos w' L)
      case atStart => exact ⟨[], aZ, 0, j1, b0, F3, by omega, Nat.zero_le _, fun q => ⟨hj1l, q, fun r hr => by cases r with | none => exact hr | some p => exact hr⟩, fun q => .inl q⟩
      case round =>
        obtain ⟨wx, rfl⟩ : ∃ x, x = wr := ⟨_, rfl⟩
        obtain ⟨g, aV, cV, j, ok, FS, hjl, hgl, HOK, HBAD⟩ := hrel
        have xL := fun o => row_cell FS.out.rd.cell o
        have HPO : Hid (rdPos wx L = j) := rsPos_of FS.out.rd
        cases ok with
        | false =>
          have HE : Hid (FdR l i none) := by
            cases hb : b0 with
            | false => exact HB2.out hb
            | true =>
              rcases HBAD.out rfl with q | q
              · rw [hb] at q; cases q
              · rw [HJJ.out hb] at q
                exact .inr ⟨HB1.out hb, .inr ⟨HRT.out hb, none, ags_bad HTK.out q, .inl ⟨rfl, rfl⟩⟩⟩
          have fL := fun o => row_frozen FS.out.rd.cell o
          go_wp2_with fail
          go_meet
          exact ⟨g, aV, cV, j, false, FS.out.ok_ false, hjl, fun q => absurd q (by decide), fun q => absurd q (by decide), fun _ => HE.out⟩
        | true =>
          obtain ⟨hjl2, hb0t, hmm⟩ := HOK.out rfl
          have HB0T : Hid (b0 = true) := hb0t
          have HMM : Hid (∀ r, Many (rpar l) (agOne l) j r → Many (rpar l) (agOne l) j1 (ahead g r)) := hmm
          clear hb0t hmm HOK HBAD
          have HQ3 : Hid _ := rs_take ⟨#[41]⟩ L c j a l true dp wx FS.out.rd (by omega)
          obtain ⟨r1, HR2⟩ : ∃ r, Hid (r = isB 4 ⟨#[41]⟩ l j) := ⟨_, rfl⟩
          rw [← HR2.out] at HQ3
          go_wp2_with fail
          refine Calls.mono HQ3.out ?_
          rintro e w3 ⟨rfl, s3, g3⟩
          have F3' : Hid _ := FS.out.call s3 g3
          clear s3 g3 HQ3 FS xL
          cases r1 with
          | true =>
            have HJP : Hid (j + 1 ≤ l.length) := isB_lt HR2.out.symm
            have hjp := HJP.out
            have HMG : Hid (Many (rpar l) (agOne l) (i + 1 + 1) (some (g, j + 1))) := by
              have := HMM.out _ (.stop (by unfold rpar; rw [← isB_tk HTK.out]; exact HR2.out.symm))
              simp only [ahead, List.append_nil] at this
              rw [HJJ.out HB0T.out] at this
              exact this
            obtain ⟨jn, hjn⟩ : ∃ z, z = j + 1 := ⟨_, rfl⟩
            have F3 : Hid (FsS dp w L w.heap.size A a c l jn true g (.slice aV g.length cV) #[.string nm, .slice aV g.length cV, .string ⟨#[]⟩, .bool false, .bool false] w3) := by rw [Hid, hjn]; exact F3'.out
            rw [← hjn] at HMG hjp
            have x3 := fun o => row_cell F3.out.rd.cell o
            have f3 := fun o => row_frozen F3.out.rd.cell o
            have y3 := fun o => row_cell F3.out.bx o
            clear F3' HR2 HJP HMM hjn
            by_cases h0 : g.length = 0
            · have hg0 : g = [] := List.length_eq_zero_iff.1 h0
              have HE : Hid (FdR l i none) := .inr ⟨HB1.out HB0T.out, .inr ⟨HRT.out HB0T.out, none, ags_none HTK.out (by have := HMG.out; rw [hg0] at this; exact this), .inl ⟨rfl, rfl⟩⟩⟩
              subst hg0
              clear h0
              go_wp2_with fail
              go_meet
              exact ⟨[], aV, cV, jn, false, F3.out.ok_ false, by show jn ≤ l.length + 1; omega, fun q => absurd q (by decide), fun q => absurd q (by decide), fun _ => HE.out⟩
            · have hpos : 0 < g.length := by omega
              have hposI : (0 : Int) < g.length := by omega
              have hdec : decide (0 < g.length) = true := decide_eq_true hpos
              have HE : Hid (∀ r, r = pFdT nm g l jn → FdR l i r) := fun r hr => .inr ⟨HB1.out HB0T.out, .inr ⟨HRT.out HB0T.out, some (g, jn), ags_some HMG.out (fun e => h0 (by rw [e]; rfl)), .inr ⟨g, jn, rfl, by rw [hr, HNM.out]⟩⟩⟩
              go_wp2_with fail
              go_meet
              exact ⟨g, aV, cV, jn, true, F3.out.ok_ true, by show jn ≤ l.length + 1; omega, fun _ => hjp, fun _ => HE.out, fun q => absurd q (by decide)⟩
          | false =>
            have F3 : Hid (FsS dp w L w.heap.size A a c l j true g (.slice aV g.length cV) #[.string nm, .slice aV g.length cV, .string ⟨#[]⟩, .bool false, .bool false] w3) := F3'.out
            have HRP : Hid (rpar l j = false) := by rw [Hid]; unfold rpar; rw [← isB_tk HTK.out]; exact HR2.out.symm
            clear F3' HR2
            have HQ4 : Hid _ := rs_name L c j a l true dp w3 F3.out.rd (by omega)
            obtain ⟨b1, HB1⟩ : ∃ r, Hid (r = nmB l j) := ⟨_, rfl⟩
            obtain ⟨n1, HN1⟩ : ∃ r, Hid (r = nmI l j) := ⟨_, rfl⟩
            obtain ⟨p1, HP1⟩ : ∃ z, Hid (z = adv b1 j) := ⟨_, rfl⟩
            rw [← HB1.out, ← HN1.out, ← HP1.out, Bool.and_true] at HQ4
            have lp1 : p1 ≤ l.length := by rw [HP1.out, HB1.out]; exact adv_nmB hjl2 (Nat.le_refl _)
            go_wp2_with fail
            refine Calls.mono HQ4.out ?_
            rintro e w4 ⟨rfl, s4, g4⟩
            have F4 : Hid (FsS dp w L w.heap.size A a c l p1 b1 g (.slice aV g.length cV) #[.string nm, .slice aV g.length cV, .string ⟨#[]⟩, .bool false, .bool false] w4) := F3.out.call s4 g4
            clear s4 g4 HQ4 F3
            go_upto_region 5 with fail
            obtain ⟨X4, hX4⟩ : ∃ X, X = w4.alloc (.cells #[.string n1, .bool false] 79) := ⟨_, rfl⟩
            rw [← hX4]
            have BX4 : Below w4.heap.size w4 X4 := by rw [hX4]; exact (Below.refl _ _).alloc (Nat.le_refl _) _
            obtain ⟨E, hE⟩ : ∃ z, z = w4.heap.size := ⟨_, rfl⟩
            have F5 : Hid (FsS dp w L w.heap.size A a c l p1 b1 g (.slice aV g.length cV) #[.string nm, .slice aV g.length cV, .string ⟨#[]⟩, .bool false, .bool false] X4) := F4.out.below BX4
            have B5 : Hid (X4.heap[E]? = some (.cells #[.string n1, .bool false] 79 (0, 0))) := by rw [Hid, hX4, hE]; exact heap_alloc_new _ _
            have HEL : Hid (L < E ∧ A < E) := by
              have := (Array.getElem?_eq_some_iff.1 F4.out.bx).1
              have := F4.out.rd.lt
              rw [Hid, hE]; omega
            have HOE : Hid (∀ q, (Value.slice aV g.length cV).ownBlock = some q → q < E) := fun q hq => by rw [hE]; exact (World.ownsRow.lt F4.out.own q hq).2
            rw [← hE]
            clear hX4 BX4 hE F4
            have HQ5 : Hid _ := rs_need ⟨#[58]⟩ L c p1 a l b1 dp X4 F5.out.rd (by omega)
            obtain ⟨b2, HB2'⟩ : ∃ r, Hid (r = isB 4 ⟨#[58]⟩ l p1) := ⟨_, rfl⟩
            obtain ⟨p2, HP2⟩ : ∃ z, Hid (z = adv b2 p1) := ⟨_, rfl⟩
            rw [← HB2'.out, ← HP2.out] at HQ5
            have lp2 : p2 ≤ l.length := by rw [HP2.out, HB2'.out]; exact adv_isB lp1 (Nat.le_refl _)
            go_wp2_with fail
            refine Calls.mono HQ5.out ?_
            rintro e w5 ⟨rfl, s5, g5⟩
            have F6 : Hid (FsS dp w L w.heap.size A a c l p2 (b2 && b1) g (.slice aV g.length cV) #[.string nm, .slice aV g.length cV, .string ⟨#[]⟩, .bool false, .bool false] w5) := F5.out.call s5 g5
            have B6 : Hid (w5.heap[E]? = some (.cells #[.string n1, .bool false] 79 (0, 0))) := grown_keeps B5.out (Array.getElem?_eq_some_iff.1 B5.out).1 g5 (by have := HEL.out; omega)
            clear s5 g5 HQ5 F5 B5
            have HQ6 : Hid _ := rs_is 1 ⟨#[73, 110, 116]⟩ L c p2 a l (b2 && b1) dp w5 F6.out.rd
            obtain ⟨b3, HB3⟩ : ∃ r, Hid (r = isB 1 ⟨#[73, 110, 116]⟩ l p2) := ⟨_, rfl⟩
            rw [← HB3.out] at HQ6
            go_wp2_with fail
            refine Calls.mono HQ6.out ?_
            rintro e w6x ⟨rfl, n6, hw6⟩
            obtain ⟨w6, hw6'⟩ : ∃ z, z = w6x := ⟨_, rfl⟩
            rw [← hw6'] at hw6 ⊢
            clear hw6'
            have F7 : Hid (FsS dp w L w.heap.size A a c l p2 (b2 && b1) g (.slice aV g.length cV) #[.string nm, .slice aV g.length cV, .string ⟨#[]⟩, .bool false, .bool false] w6) := by rw [Hid, hw6]; exact F6.out.call (F6.out.rd.drewN n6) (grown_drewN w5 n6 _)
            have B7 : Hid (w6.heap[E]? = some (.cells #[.string n1, .bool false] 79 (0, 0))) := by rw [Hid, hw6]; exact B6.out
            clear hw6 HQ6 F6 B6
            cases b3 with
            | false =>
              have x6 := fun o => row_cell F7.out.rd.cell o
              have f6 := fun o => row_frozen F7.out.rd.cell o
              go_upto_region 7 with fail
              obtain ⟨X6, hX6⟩ : ∃ X : World, X = w6.setCell ⟨L, 2, none⟩ (.bool false) := ⟨_, rfl⟩
              rw [← hX6]
              have F8 : Hid (FsS dp w L w.heap.size A a c l p2 false g (.slice aV g.length cV) #[.string nm, .slice aV g.length cV, .string ⟨#[]⟩, .bool false, .bool false] X6) := by rw [Hid, hX6]; exact F7.out.ok_ _
              have B8 : Hid (X6.heap[E]? = some (.cells #[.string n1, .bool false] 79 (0, 0))) := by rw [Hid, hX6, heap_setCell_other _ _ _ _ (by have := HEL.out; show E ≠ L; omega)]; exact B7.out
              clear hX6 x6 f6 F7 B7
              have x7 := fun o => row_cell F8.out.rd.cell o
              have f7 := fun o => row_frozen F8.out.rd.cell o
              go_upto_region 8 with fail
              obtain ⟨X7, hX7⟩ : ∃ X : World, X = X6.setCell ⟨L, 1, none⟩ (.int .i64 ((p2 : Int) + 1)) := ⟨_, rfl⟩
              rw [← hX7]
              have F9 : Hid (FsS dp w L w.heap.size A a c l (p2 + 1) false g (.slice aV g.length cV) #[.string nm, .slice aV g.length cV, .string ⟨#[]⟩, .bool false, .bool false] X7) := by rw [Hid, hX7, show (p2 : Int) + 1 = ((p2 + 1 : Nat) : Int) by omega]; exact F8.out.at_ _
              have B9 : Hid (X7.heap[E]? = some (.cells #[.string n1, .bool false] 79 (0, 0))) := by rw [Hid, hX7, heap_setCell_other _ _ _ _ (by have := HEL.out; show E ≠ L; omega)]; exact B8.out
              clear hX7 x7 f7 F8 B8
              have HQ8 : Hid _ := rs_take ⟨#[33]⟩ L c (p2 + 1) a l false dp X7 F9.out.rd (by omega)
              obtain ⟨b4, HB4⟩ : ∃ r, Hid (r = isB 4 ⟨#[33]⟩ l (p2 + 1)) := ⟨_, rfl⟩
              obtain ⟨p4, HP4⟩ : ∃ z, Hid (z = adv b4 (p2 + 1)) := ⟨_, rfl⟩
              rw [← HB4.out, ← HP4.out] at HQ8
              go_wp2_with fail
              refine Calls.mono HQ8.out ?_
              rintro e w8 ⟨rfl, s8, g8x⟩
              have F10 : Hid (FsS dp w L w.heap.size A a c l p4 false g (.slice aV g.length cV) #[.string nm, .slice aV g.length cV, .string ⟨#[]⟩, .bool false, .bool false] w8) := F9.out.call s8 g8x
              have B10 : Hid (w8.heap[E]? = some (.cells #[.string n1, .bool false] 79 (0, 0))) := grown_keeps B9.out (Array.getElem?_eq_some_iff.1 B9.out).1 g8x (by have := HEL.out; omega)
              clear s8 g8x HQ8 F9 B9
              have y10 := fun o => row_cell B10.out o
              have z10 := fun o => row_frozen B10.out o
              go_upto_region 9 with fail
              obtain ⟨X8, hX8⟩ : ∃ X : World, X = w8.setCell ⟨E, 1, none⟩ (.bool b4) := ⟨_, rfl⟩
              rw [← hX8]
              have F11 : Hid (FsS dp w L w.heap.size A a c l p4 false g (.slice aV g.length cV) #[.string nm, .slice aV g.length cV, .string ⟨#[]⟩, .bool false, .bool false] X8) := by rw [Hid, hX8]; exact F10.out.far HEL.out.2 HOE.out 1 _
              have B11 : Hid (X8.heap[E]? = some (.cells #[.string n1, .bool b4] 79 (0, 0))) := by rw [Hid, hX8]; exact row_set B10.out 1 _
              clear hX8 y10 z10 F10 B10
              obtain ⟨g8, cap8, W8, hrun, f12⟩ := F11.out.push ⟨n1, b4⟩ (by omega)
              have HRUN : Hid _ := hrun
              have F12 : Hid _ := f12
              have hlen : (g ++ [(⟨n1, b4⟩ : G.Ag)]).length = g.length + 1 := by simp
              have F13 : Hid (FsS dp w L w.heap.size A a c l p4 false (g ++ [(⟨n1, b4⟩ : G.Ag)]) (.slice (some ⟨g8, 0, none⟩) (g ++ [(⟨n1, b4⟩ : G.Ag)]).length cap8) #[.string nm, .slice (some ⟨g8, 0, none⟩) (g ++ [(⟨n1, b4⟩ : G.Ag)]).length cap8, .string ⟨#[]⟩, .bool false, .bool false] (W8.setCell ⟨A, 1, none⟩ (.slice (some ⟨g8, 0, none⟩) (g.length + 1) cap8))) := by rw [Hid, ← hlen]; exact F12.out.put 1 _
              have HLK : Hid _ := ag_looks HTK.out HB1.out (HP1.out ▸ HB2'.out) (HP1.out ▸ HP2.out ▸ HB3.out) (HP1.out ▸ HP2.out ▸ HB4.out)
              have xA := fun o => row_cell F11.out.bx o
              have xE := fun o => row_cell B11.out o
              have xW := fun o => row_cell F12.out.bx o
              have fW := fun o => row_frozen F12.out.bx o
              have HPF : Hid (rdPos (W8.setCell ⟨A, 1, none⟩ (.slice (some ⟨g8, 0, none⟩) (g.length + 1) cap8)) L = p4) := rsPos_of F13.out.rd
              clear hrun f12 hlen
              go_wp2_with (first | (at_builtin; refine wpList_append_runR rfl _ _ _ rfl _ _ _ _ rfl rfl HRUN.out ?_) | fail)
              have e1 := adv_ge b1 j
              have e2 := adv_ge b2 p1
              have e4 := adv_ge b4 (p2 + 1)
              have q1 := HP1.out
              have q2 := HP2.out
              have q4 := HP4.out
              have HL4 : p4 ≤ l.length + 1 := by rw [q4, HB4.out]; exact adv_isB (by omega) (by omega)
              refine ⟨⟨g ++ [(⟨n1, b4⟩ : G.Ag)], some ⟨g8, 0, none⟩, cap8, p4, false, F13, HL4, by simp; omega, fun q => absurd q (by decide), fun q => .inr ?_⟩, by rw [HPF.out, HPO.out]; omega⟩
              have h1 := HLK.out.2 (by rw [Bool.false_and])
              exact HMM.out _ (.bad HRP.out h1.symm)
            | true =>
              have x6 := fun o => row_cell F7.out.rd.cell o
              have f6 := fun o => row_frozen F7.out.rd.cell o
              go_upto_region 7 with fail
              obtain ⟨X6, hX6⟩ : ∃ X : World, X = w6.setCell ⟨L, 2, none⟩ (.bool (b2 && b1)) := ⟨_, rfl⟩
              rw [← hX6]
              have F8 : Hid (FsS dp w L w.heap.size A a c l p2 (b2 && b1) g (.slice aV g.length cV) #[.string nm, .slice aV g.length cV, .string ⟨#[]⟩, .bool false, .bool false] X6) := by rw [Hid, hX6]; exact F7.out.ok_ _
              have B8 : Hid (X6.heap[E]? = some (.cells #[.string n1, .bool false] 79 (0, 0))) := by rw [Hid, hX6, heap_setCell_other _ _ _ _ (by have := HEL.out; show E ≠ L; omega)]; exact B7.out
              clear hX6 x6 f6 F7 B7
              have x7 := fun o => row_cell F8.out.rd.cell o
              have f7 := fun o => row_frozen F8.out.rd.cell o
              go_upto_region 8 with fail
              obtain ⟨X7, hX7⟩ : ∃ X : World, X = X6.setCell ⟨L, 1, none⟩ (.int .i64 ((p2 : Int) + 1)) := ⟨_, rfl⟩
              rw [← hX7]
              have F9 : Hid (FsS dp w L w.heap.size A a c l (p2 + 1) (b2 && b1) g (.slice aV g.length cV) #[.string nm, .slice aV g.length cV, .string ⟨#[]⟩, .bool false, .bool false] X7) := by rw [Hid, hX7, show (p2 : Int) + 1 = ((p2 + 1 : Nat) : Int) by omega]; exact F8.out.at_ _
              have B9 : Hid (X7.heap[E]? = some (.cells #[.string n1, .bool false] 79 (0, 0))) := by rw [Hid, hX7, heap_setCell_other _ _ _ _ (by have := HEL.out; show E ≠ L; omega)]; exact B8.out
              clear hX7 x7 f7 F8 B8
              have HQ8 : Hid _ := rs_take ⟨#[33]⟩ L c (p2 + 1) a l (b2 && b1) dp X7 F9.out.rd (by omega)
              obtain ⟨b4, HB4⟩ : ∃ r, Hid (r = isB 4 ⟨#[33]⟩ l (p2 + 1)) := ⟨_, rfl⟩
              obtain ⟨p4, HP4⟩ : ∃ z, Hid (z = adv b4 (p2 + 1)) := ⟨_, rfl⟩
              rw [← HB4.out, ← HP4.out] at HQ8
              go_wp2_with fail
              refine Calls.mono HQ8.out ?_
              rintro e w8 ⟨rfl, s8, g8x⟩
              have F10 : Hid (FsS dp w L w.heap.size A a c l p4 (b2 && b1) g (.slice aV g.length cV) #[.string nm, .slice aV g.length cV, .string ⟨#[]⟩, .bool false, .bool false] w8) := F9.out.call s8 g8x
              have B10 : Hid (w8.heap[E]? = some (.cells #[.string n1, .bool false] 79 (0, 0))) := grown_keeps B9.out (Array.getElem?_eq_some_iff.1 B9.out).1 g8x (by have := HEL.out; omega)
              clear s8 g8x HQ8 F9 B9
              have y10 := fun o => row_cell B10.out o
              have z10 := fun o => row_frozen B10.out o
              go_upto_region 9 with fail
              obtain ⟨X8, hX8⟩ : ∃ X : World, X = w8.setCell ⟨E, 1, none⟩ (.bool b4) := ⟨_, rfl⟩
              rw [← hX8]
              have F11 : Hid (FsS dp w L w.heap.size A a c l p4 (b2 && b1) g (.slice aV g.length cV) #[.string nm, .slice aV g.length cV, .string ⟨#[]⟩, .bool false, .bool false] X8) := by rw [Hid, hX8]; exact F10.out.far HEL.out.2 HOE.out 1 _
              have B11 : Hid (X8.heap[E]? = some (.cells #[.string n1, .bool b4] 79 (0, 0))) := by rw [Hid, hX8]; exact row_set B10.out 1 _
              clear hX8 y10 z10 F10 B10
              obtain ⟨g8, cap8, W8, hrun, f12⟩ := F11.out.push ⟨n1, b4⟩ (by omega)
              have HRUN : Hid _ := hrun
              have F12 : Hid _ := f12
              have hlen : (g ++ [(⟨n1, b4⟩ : G.Ag)]).length = g.length + 1 := by simp
              have F13 : Hid (FsS dp w L w.heap.size A a c l p4 (b2 && b1) (g ++ [(⟨n1, b4⟩ : G.Ag)]) (.slice (some ⟨g8, 0, none⟩) (g ++ [(⟨n1, b4⟩ : G.Ag)]).length cap8) #[.string nm, .slice (some ⟨g8, 0, none⟩) (g ++ [(⟨n1, b4⟩ : G.Ag)]).length cap8, .string ⟨#[]⟩, .bool false, .bool false] (W8.setCell ⟨A, 1, none⟩ (.slice (some ⟨g8, 0, none⟩) (g.length + 1) cap8))) := by rw [Hid, ← hlen]; exact F12.out.put 1 _
              have HLK : Hid _ := ag_looks HTK.out HB1.out (HP1.out ▸ HB2'.out) (HP1.out ▸ HP2.out ▸ HB3.out) (HP1.out ▸ HP2.out ▸ HB4.out)
              have xA := fun o => row_cell F11.out.bx o
              have xE := fun o => row_cell B11.out o
              have xW := fun o => row_cell F12.out.bx o
              have fW := fun o => row_frozen F12.out.bx o
              have HPF : Hid (rdPos (W8.setCell ⟨A, 1, none⟩ (.slice (some ⟨g8, 0, none⟩) (g.length + 1) cap8)) L = p4) := rsPos_of F13.out.rd
              clear hrun f12 hlen
              go_wp2_with (first | (at_builtin; refine wpList_append_runR rfl _ _ _ rfl _ _ _ _ rfl rfl HRUN.out ?_) | fail)
              have e1 := adv_ge b1 j
              have e2 := adv_ge b2 p1
              have e4 := adv_ge b4 (p2 + 1)
              have q1 := HP1.out
              have q2 := HP2.out
              have q4 := HP4.out
              have HL4 : p4 ≤ l.length + 1 := by rw [q4, HB4.out]; exact adv_isB (by omega) (by omega)
              have HL5 : p4 ≤ l.length := by
                have := isB_lt HB3.out.symm
                rw [q4, HB4.out]; exact adv_isB (by omega) (Nat.le_refl _)
              refine ⟨⟨g ++ [(⟨n1, b4⟩ : G.Ag)], some ⟨g8, 0, none⟩, cap8, p4, (b2 && b1), F13, HL4, by simp; omega, fun q => ⟨HL5, HB0T.out, fun r hr => ?_⟩, fun q => .inr ?_⟩, by rw [HPF.out, HPO.out]; omega⟩
              · have h1 := HLK.out.1 (by rw [Bool.true_and]; exact q)
                rw [← HP1.out, ← HP2.out, ← HP4.out, ← HN1.out] at h1
                have := HMM.out _ (Many.step HRP.out (show agOne l j (some (⟨n1, b4⟩, p4)) from h1.symm) hr)
                rwa [ahead_ahead] at this
              · have h1 := HLK.out.2 (by rw [Bool.true_and]; exact q)
                exact HMM.out _ (.bad HRP.out h1.symm)
  obtain ⟨g, aV, cV, j, ok, HF, HJL, HJO, HE, HN⟩ := hcut
  obtain ⟨W0, rfl⟩ : ∃ X, X = wc := ⟨wc, rfl⟩
  clear HB1 HB2 HB0 HR0 HR1 F2 HJ0 hj0l
  have hjl := HJL.out
  have HQ11 : Hid _ := rs_need ⟨#[58]⟩ L c j a l ok dp W0 HF.out.rd (by omega)
  obtain ⟨c1, HC1⟩ : ∃ r, Hid (r = isB 4 ⟨#[58]⟩ l j) := ⟨_, rfl⟩
  obtain ⟨p1, HP1⟩ : ∃ z, Hid (z = adv c1 j) := ⟨_, rfl⟩
  rw [← HC1.out, ← HP1.out] at HQ11
  have lp1 : p1 ≤ l.length + 1 := by rw [HP1.out, HC1.out]; exact adv_isB (by omega) (by omega)
  go_wp2_with fail
  refine Calls.mono HQ11.out ?_
  rintro e w11 ⟨rfl, s11, g11⟩
  have F11 : Hid (FsS dp w L w.heap.size A a c l p1 (c1 && ok) g (.slice aV g.length cV) #[.string nm, .slice aV g.length cV, .string ⟨#[]⟩, .bool false, .bool false] w11) := HF.out.call s11 g11
  clear s11 g11 HQ11 HF
  have HQ12 : Hid _ := rs_take ⟨#[91]⟩ L c p1 a l (c1 && ok) dp w11 F11.out.rd (by omega)
  obtain ⟨c2, HC2⟩ : ∃ r, Hid (r = isB 4 ⟨#[91]⟩ l p1) := ⟨_, rfl⟩
  obtain ⟨p2, HP2⟩ : ∃ z, Hid (z = adv c2 p1) := ⟨_, rfl⟩
  rw [← HC2.out, ← HP2.out] at HQ12
  have lp2 : p2 ≤ l.length + 1 := by rw [HP2.out, HC2.out]; exact adv_isB (by omega) (by omega)
  go_wp2_with fail
  refine Calls.mono HQ12.out ?_
  rintro e w12 ⟨rfl, s12, g12⟩
  have F12 : Hid (FsS dp w L w.heap.size A a c l p2 (c1 && ok) g (.slice aV g.length cV) #[.string nm, .slice aV g.length cV, .string ⟨#[]⟩, .bool false, .bool false] w12) := F11.out.call s12 g12
  clear s12 g12 HQ12 F11
  cases c2 with
  | true =>
    have x13 := fun o => row_cell F12.out.bx o
    have f13 := fun o => row_frozen F12.out.bx o
    go_upto_region 14 with fail
    obtain ⟨X13, hX13⟩ : ∃ X : World, X = w12.setCell ⟨A, 3, none⟩ (.bool true) := ⟨_, rfl⟩
    rw [← hX13]
    have F13 : Hid (FsS dp w L w.heap.size A a c l p2 (c1 && ok) g (.slice aV g.length cV) #[.string nm, .slice aV g.length cV, .string ⟨#[]⟩, .bool true, .bool false] X13) := by rw [Hid, hX13]; exact F12.out.put 3 _
    clear hX13 x13 f13 F12
    have HQ14 : Hid _ := rs_name L c p2 a l (c1 && ok) dp X13 F13.out.rd (by omega)
    obtain ⟨c3, HC3⟩ : ∃ r, Hid (r = nmB l p2) := ⟨_, rfl⟩
    obtain ⟨n2, HN2⟩ : ∃ z, Hid (z = nmI l p2) := ⟨_, rfl⟩
    obtain ⟨p3, HP3⟩ : ∃ z, Hid (z = adv c3 p2) := ⟨_, rfl⟩
    rw [← HC3.out, ← HN2.out, ← HP3.out] at HQ14
    have lp3 : p3 ≤ l.length + 1 := by rw [HP3.out, HC3.out]; exact adv_nmB (by omega) (by omega)
    go_wp2_with fail
    refine Calls.mono HQ14.out ?_
    rintro e w14 ⟨rfl, s14, g14⟩
    have F14 : Hid (FsS dp w L w.heap.size A a c l p3 (c3 && (c1 && ok)) g (.slice aV g.length cV) #[.string nm, .slice aV g.length cV, .string ⟨#[]⟩, .bool true, .bool false] w14) := F13.out.call s14 g14
    clear s14 g14 HQ14 F13
    have x15 := fun o => row_cell F14.out.bx o
    have f15 := fun o => row_frozen F14.out.bx o
    go_upto_region 15 with fail
    obtain ⟨X15, hX15⟩ : ∃ X : World, X = w14.setCell ⟨A, 2, none⟩ (.string n2) := ⟨_, rfl⟩
    rw [← hX15]
    have F15 : Hid (FsS dp w L w.heap.size A a c l p3 (c3 && (c1 && ok)) g (.slice aV g.length cV) #[.string nm, .slice aV g.length cV, .string n2, .bool true, .bool false] X15) := by rw [Hid, hX15]; exact F14.out.put 2 _
    clear hX15 x15 f15 F14
    have HQ16 : Hid _ := rs_need ⟨#[93]⟩ L c p3 a l (c3 && (c1 && ok)) dp X15 F15.out.rd (by omega)
    obtain ⟨c4, HC4⟩ : ∃ r, Hid (r = isB 4 ⟨#[93]⟩ l p3) := ⟨_, rfl⟩
    obtain ⟨p4, HP4⟩ : ∃ z, Hid (z = adv c4 p3) := ⟨_, rfl⟩
    rw [← HC4.out, ← HP4.out] at HQ16
    have lp4 : p4 ≤ l.length + 1 := by rw [HP4.out, HC4.out]; exact adv_isB (by omega) (by omega)
    have HLO : Hid ((c4 && (c3 && (c1 && ok))) = true → p4 ≤ l.length) := fun q => by
      simp only [Bool.and_eq_true] at q
      obtain ⟨q4, q3, q1, q0⟩ := q
      have := isB_lt (HC4.out.symm.trans q4)
      rw [HP4.out, q4]; exact this
    go_wp2_with fail
    refine Calls.mono HQ16.out ?_
    rintro e w16 ⟨rfl, s16, g16⟩
    have FT : Hid (FsS dp w L w.heap.size A a c l p4 (c4 && (c3 && (c1 && ok))) g (.slice aV g.length cV) #[.string nm, .slice aV g.length cV, .string n2, .bool true, .bool false] w16) := F15.out.call s16 g16
    clear s16 g16 HQ16 F15
    have HQ17 : Hid _ := rs_take ⟨#[33]⟩ L c p4 a l (c4 && (c3 && (c1 && ok))) dp w16 FT.out.rd (by omega)
    obtain ⟨c5, HC5⟩ : ∃ r, Hid (r = isB 4 ⟨#[33]⟩ l p4) := ⟨_, rfl⟩
    obtain ⟨p5, HP5⟩ : ∃ z, Hid (z = adv c5 p4) := ⟨_, rfl⟩
    rw [← HC5.out, ← HP5.out] at HQ17
    go_wp2_with fail
    refine Calls.mono HQ17.out ?_
    rintro e wz ⟨rfl, sz, gz⟩
    have FZ : Hid (FsS dp w L w.heap.size A a c l p5 (c4 && (c3 && (c1 && ok))) g (.slice aV g.length cV) #[.string nm, .slice aV g.length cV, .string n2, .bool true, .bool false] wz) := FT.out.call sz gz
    clear sz gz HQ17 FT
    have x18 := fun o => row_cell FZ.out.bx o
    have f18 := fun o => row_frozen FZ.out.bx o
    go_upto_region 18 with fail
    obtain ⟨Xz, hX18⟩ : ∃ X : World, X = wz.setCell ⟨A, 4, none⟩ (.bool c5) := ⟨_, rfl⟩
    rw [← hX18]
    have FY : Hid (FsS dp w L w.heap.size A a c l p5 (c4 && (c3 && (c1 && ok))) g (.slice aV g.length cV) #[.string nm, .slice aV g.length cV, .string n2, .bool true, .bool c5] Xz) := by rw [Hid, hX18]; exact FZ.out.put 4 _
    clear hX18 x18 f18 FZ
    have HEND : Hid _ := fd_list HTK.out HE.out HN.out HC1.out (HP1.out ▸ HC2.out) (HP1.out ▸ HP2.out ▸ HC3.out) (HP1.out ▸ HP2.out ▸ HP3.out ▸ HC4.out) (HP1.out ▸ HP2.out ▸ HP3.out ▸ HP4.out ▸ HC5.out)
    have yA := fun o => row_cell FY.out.bx o
    have yR := fun o => row_cell FY.out.r o
    have fR := fun o => row_frozen FY.out.r o
    have hLR := FY.out.hL
    have hRA := FY.out.hA
    have lp5 : p5 ≤ l.length + 1 := by rw [HP5.out, HC5.out]; exact adv_isB (by omega) (by omega)
    have HLP : Hid ((c4 && (c3 && (c1 && ok))) = true → p5 ≤ l.length) := fun q => by
      rw [HP5.out, HC5.out]
      refine adv_isB ?_ (Nat.le_refl _)
      exact HLO.out q
    go_wp2_with fail
    refine bodyPost_ret (v := .agg #[.string nm, .slice aV g.length cV, .string n2, .bool true, .bool c5]) (results_sfield _ _ w.heap.size _ rfl (row_set (row_set (row_set (row_set (row_set FY.out.r 0 (.string nm)) 1 (.slice aV g.length cV)) 2 (.string n2)) 3 (.bool true)) 4 (.bool c5)) rfl) rfl ⟨⟨nm, g, n2, true, c5⟩, p5, (c4 && (c3 && (c1 && ok))), .slice aV g.length cV, rfl, ?_, ?_, ?_, lp5, ?_, ?_⟩
    · refine ⟨FY.out.own.1, ?_⟩
      rcases FY.out.own.2 with h0 | ⟨q, cap, cur, e0, q1, q2, q3⟩
      · exact .inl h0
      · refine .inr ⟨q, cap, cur, e0, q1, ?_, q3⟩
        have hne : q ≠ w.heap.size := by
          intro e
          rw [e, FY.out.r] at q2
          simp at q2
        repeat rw [heap_setCell_other _ _ _ _ hne]
        exact q2
    · refine FY.out.rd.keep fun q hq => ?_
      have hne : q ≠ w.heap.size := by omega
      repeat rw [heap_setCell_other _ _ _ _ hne]
    · repeat (refine grown_new ?_ (Nat.le_refl _) _)
      exact FY.out.gr
    · intro q
      refine ⟨HLP.out q, ?_⟩
      rw [HN2.out, HP5.out, HP4.out, HP3.out, HP2.out, HP1.out]
      exact HEND.out.1 q
    · exact HEND.out.2
  | false =>
    have HQ14 : Hid _ := rs_name L c p2 a l (c1 && ok) dp w12 F12.out.rd (by omega)
    obtain ⟨c3, HC3⟩ : ∃ r, Hid (r = nmB l p2) := ⟨_, rfl⟩
    obtain ⟨n2, HN2⟩ : ∃ z, Hid (z = nmI l p2) := ⟨_, rfl⟩
    obtain ⟨p3, HP3⟩ : ∃ z, Hid (z = adv c3 p2) := ⟨_, rfl⟩
    rw [← HC3.out, ← HN2.out, ← HP3.out] at HQ14
    have lp3 : p3 ≤ l.length + 1 := by rw [HP3.out, HC3.out]; exact adv_nmB (by omega) (by omega)
    go_wp2_with fail
    refine Calls.mono HQ14.out ?_
    rintro e w14 ⟨rfl, s14, g14⟩
    have F14 : Hid (FsS dp w L w.heap.size A a c l p3 (c3 && (c1 && ok)) g (.slice aV g.length cV) #[.string nm, .slice aV g.length cV, .string ⟨#[]⟩, .bool false, .bool false] w14) := F12.out.call s14 g14
    clear s14 g14 HQ14 F12
    have x15 := fun o => row_cell F14.out.bx o
    have f15 := fun o => row_frozen F14.out.bx o
    go_upto_region 17 with fail
    obtain ⟨X15, hX15⟩ : ∃ X : World, X = w14.setCell ⟨A, 2, none⟩ (.string n2) := ⟨_, rfl⟩
    rw [← hX15]
    have FT : Hid (FsS dp w L w.heap.size A a c l p3 (c3 && (c1 && ok)) g (.slice aV g.length cV) #[.string nm, .slice aV g.length cV, .string n2, .bool false, .bool false] X15) := by rw [Hid, hX15]; exact F14.out.put 2 _
    clear hX15 x15 f15 F14
    have HLO : Hid ((c3 && (c1 && ok)) = true → p3 ≤ l.length) := fun q => by
      simp only [Bool.and_eq_true] at q
      obtain ⟨q3, q1, q0⟩ := q
      have := nmB_lt (HC3.out.symm.trans q3)
      rw [HP3.out, q3]; exact this
    have HQ17 : Hid _ := rs_take ⟨#[33]⟩ L c p3 a l (c3 && (c1 && ok)) dp X15 FT.out.rd (by omega)
    obtain ⟨c5, HC5⟩ : ∃ r, Hid (r = isB 4 ⟨#[33]⟩ l p3) := ⟨_, rfl⟩
    obtain ⟨p5, HP5⟩ : ∃ z, Hid (z = adv c5 p3) := ⟨_, rfl⟩
    rw [← HC5.out, ← HP5.out] at HQ17
    go_wp2_with fail
    refine Calls.mono HQ17.out ?_
    rintro e wz ⟨rfl, sz, gz⟩
    have FZ : Hid (FsS dp w L w.heap.size A a c l p5 (c3 && (c1 && ok)) g (.slice aV g.length cV) #[.string nm, .slice aV g.length cV, .string n2, .bool false, .bool false] wz) := FT.out.call sz gz
    clear sz gz HQ17 FT
    have x18 := fun o => row_cell FZ.out.bx o
    have f18 := fun o => row_frozen FZ.out.bx o
    go_upto_region 18 with fail
    obtain ⟨Xz, hX18⟩ : ∃ X : World, X = wz.setCell ⟨A, 4, none⟩ (.bool c5) := ⟨_, rfl⟩
    rw [← hX18]
    have FY : Hid (FsS dp w L w.heap.size A a c l p5 (c3 && (c1 && ok)) g (.slice aV g.length cV) #[.string nm, .slice aV g.length cV, .string n2, .bool false, .bool c5] Xz) := by rw [Hid, hX18]; exact FZ.out.put 4 _
    clear hX18 x18 f18 FZ
    have HEND : Hid _ := fd_plain HTK.out HE.out HN.out HC1.out (HP1.out ▸ HC2.out) (HP1.out ▸ HP2.out ▸ HC3.out) (HP1.out ▸ HP2.out ▸ HP3.out ▸ HC5.out)
    have yA := fun o => row_cell FY.out.bx o
    have yR := fun o => row_cell FY.out.r o
    have fR := fun o => row_frozen FY.out.r o
    have hLR := FY.out.hL
    have hRA := FY.out.hA
    have lp5 : p5 ≤ l.length + 1 := by rw [HP5.out, HC5.out]; exact adv_isB (by omega) (by omega)
    have HLP : Hid ((c3 && (c1 && ok)) = true → p5 ≤ l.length) := fun q => by
      rw [HP5.out, HC5.out]
      refine adv_isB ?_ (Nat.le_refl _)
      exact HLO.out q
    go_wp2_with fail
    refine bodyPost_ret (v := .agg #[.string nm, .slice aV g.length cV, .string n2, .bool false, .bool c5]) (results_sfield _ _ w.heap.size _ rfl (row_set (row_set (row_set (row_set (row_set FY.out.r 0 (.string nm)) 1 (.slice aV g.length cV)) 2 (.string n2)) 3 (.bool false)) 4 (.bool c5)) rfl) rfl ⟨⟨nm, g, n2, false, c5⟩, p5, (c3 && (c1 && ok)), .slice aV g.length cV, rfl, ?_, ?_, ?_, lp5, ?_, ?_⟩
    · refine ⟨FY.out.own.1, ?_⟩
      rcases FY.out.own.2 with h0 | ⟨q, cap, cur, e0, q1, q2, q3⟩
      · exact .inl h0
      · refine .inr ⟨q, cap, cur, e0, q1, ?_, q3⟩
        have hne : q ≠ w.heap.size := by
          intro e
          rw [e, FY.out.r] at q2
          simp at q2
        repeat rw [heap_setCell_other _ _ _ _ hne]
        exact q2
    · refine FY.out.rd.keep fun q hq => ?_
      have hne : q ≠ w.heap.size := by omega
      repeat rw [heap_setCell_other _ _ _ _ hne]
    · repeat (refine grown_new ?_ (Nat.le_refl _) _)
      exact FY.out.gr
    · intro q
      refine ⟨HLP.out q, ?_⟩
      rw [HN2.out, HP5.out, HP3.out, HP2.out, HP1.out]
      exact HEND.out.1 q
    · exact HEND.out.2
end Go.Proofs.YtnfoinmccigdfaaGreatDoor
