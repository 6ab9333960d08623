/- The specification's reader of documents: a selection under way. -/
import Derived.Test.YtlilfbcngncllaaGreatDoorPsDir
import Derived.Test.YtlilfbcngncllaaGreatDoorSelFrom
namespace Go.Proofs.YtlilfbcngncllaaGreatDoor
open Go.ChangeShapes Go.WideShapes Go.ChangeAt Go.RowKit
set_option linter.unusedVariables false

/-- What a method comes to that may be too deep: the flags ahead, the flags behind, the place behind. -/
structure Af {α : Type} (P : PR α) (l : List Tk) (ok dp ok' dp' : Bool) (x : α) (j : Nat) : Prop where
  le : j ≤ l.length + 1
  yes : ok' = true → ok = true ∧ dp' = dp ∧ j ≤ l.length ∧ P = .ok x (l.drop j)
  no : ok' = false → (ok = false ∧ dp' = dp) ∨ (ok = true ∧ P = .form ∧ dp' = dp) ∨ (ok = true ∧ P = .deep ∧ dp' = true)
theorem sel_spr {l : List Tk} {q j d : Nat} {okN okD dp : Bool} {xs : List Di} {P : Option (Hd × Bool × List Tk)} (mk : List Di → Hd) (hP : P = if okN = true then (pDirs (l.drop q)).map fun x => (mk x.1, false, x.2) else none) (A : AfO (pDirs (l.drop q)) l okN okD xs j) :
    Af (fin d P) l true dp okD dp (mk xs, .nil) j := by
  refine ⟨A.le, fun h => ?_, fun h => .inr (.inl ⟨rfl, ?_, rfl⟩)⟩
  · obtain ⟨h1, h2, h3⟩ := A.yes h
    refine ⟨rfl, rfl, h2, ?_⟩
    rw [hP, if_pos h1, h3]; rfl
  · rcases A.no h with e | e
    · rw [hP, e]; rfl
    · rw [hP, e]; cases okN <;> rfl
theorem sel_inl {l : List Tk} {q j k d : Nat} {okN okD dp ok' dp' : Bool} {xs : List Di} {s : Sels} {P : Option (Hd × Bool × List Tk)} (mk : List Di → Hd) (hP : P = if okN = true then (pDirs (l.drop q)).map fun x => (mk x.1, true, x.2) else none) (A : AfO (pDirs (l.drop q)) l okN okD xs j)
    (B : Af (pSet d (l.drop j)) l okD dp ok' dp' s k) : Af (fin d P) l true dp ok' dp' (mk xs, s) k := by
  have no : okD = false → fin d P = .form := fun h => by
    rcases A.no h with e | e
    · rw [hP, e]; rfl
    · rw [hP, e]; cases okN <;> rfl
  have yes : okD = true → fin d P = (match pSet d (l.drop j) with | .ok s r1 => .ok (mk xs, s) r1 | .form => .form | .deep => .deep) := fun h => by
    obtain ⟨h1, h2, h3⟩ := A.yes h
    rw [hP, if_pos h1, h3]; rfl
  refine ⟨B.le, fun h => ?_, fun h => ?_⟩
  · obtain ⟨h1, h2, h3, h4⟩ := B.yes h
    exact ⟨rfl, h2, h3, by rw [yes h1, h4]⟩
  · rcases B.no h with ⟨e, e2⟩ | ⟨e, e1, e2⟩ | ⟨e, e1, e2⟩
    · exact .inr (.inl ⟨rfl, no e, e2⟩)
    · exact .inr (.inl ⟨rfl, by rw [yes e, e1], e2⟩)
    · exact .inr (.inr ⟨rfl, by rw [yes e, e1], e2⟩)
theorem pFlA_any {l : List Tk} (h : TkG l) (al nm : ByteArray) (q : Nat) : pFlA l al nm q = (pArgsAny (l.drop q)).bind fun x => (pDirs x.2).map fun y => (⟨1, al, nm, x.1, y.1⟩, atM [123] y.2, y.2) := by
  unfold pFlA
  rw [pArgsAny_at h]
theorem fld_end {l : List Tk} (h : TkG l) {q j k d : Nat} {okN okA okD : Bool} {al nm : ByteArray} {xs : List Ar} {ys : List Di} {P : Option (Hd × Bool × List Tk)} (hP : P = if okN = true then pFlA l al nm q else none) (A : AfO (pArgsAny (l.drop q)) l okN okA xs j) (B : AfO (pDirs (l.drop j)) l okA okD ys k) :
    (okD = false → fin d P = .form) ∧ (okD = true → fin d P = fin d (some (⟨1, al, nm, xs, ys⟩, isB 4 ⟨#[123]⟩ l k, l.drop k)) ∧ k ≤ l.length) := by
  rw [pFlA_any h] at hP
  refine ⟨fun q => ?_, fun q => ?_⟩
  · rcases B.no q with e | e
    · rcases A.no e with f | f
      · rw [hP, f]; rfl
      · rw [hP, f]; cases okN <;> rfl
    · cases ha : okA with
      | false =>
        rcases A.no ha with f | f
        · rw [hP, f]; rfl
        · rw [hP, f]; cases okN <;> rfl
      | true =>
        obtain ⟨h1, h2, h3⟩ := A.yes ha
        rw [hP, if_pos h1, h3]
        simp only [Option.bind_some]
        rw [e]; rfl
  · obtain ⟨h1, h2, h3⟩ := B.yes q
    obtain ⟨g1, g2, g3⟩ := A.yes h1
    refine ⟨?_, h2⟩
    rw [hP, if_pos g1, g3]
    simp only [Option.bind_some]
    rw [h3]
    simp only [Option.map_some]
    rw [isB_tk h.ok', ← at_lit h]
theorem fld_no {l : List Tk} (h : TkG l) {q j k d : Nat} {okN okA okD dp : Bool} {al nm : ByteArray} {xs : List Ar} {ys : List Di} {P : Option (Hd × Bool × List Tk)} (hP : P = if okN = true then pFlA l al nm q else none) (A : AfO (pArgsAny (l.drop q)) l okN okA xs j) (B : AfO (pDirs (l.drop j)) l okA okD ys k)
    (hc : okD = true → isB 4 ⟨#[123]⟩ l k = false) : Af (fin d P) l true dp okD dp (⟨1, al, nm, xs, ys⟩, .nil) k := by
  have E := fld_end (d := d) h hP A B
  refine ⟨B.le, fun q => ?_, fun q => .inr (.inl ⟨rfl, E.1 q, rfl⟩)⟩
  obtain ⟨e1, e2⟩ := E.2 q
  refine ⟨rfl, rfl, e2, ?_⟩
  rw [e1, hc q]; rfl
theorem fld_set {l : List Tk} (h : TkG l) {q j k m d : Nat} {okN okA dp ok' dp' : Bool} {al nm : ByteArray} {xs : List Ar} {ys : List Di} {s : Sels} {P : Option (Hd × Bool × List Tk)} (hP : P = if okN = true then pFlA l al nm q else none) (A : AfO (pArgsAny (l.drop q)) l okN okA xs j) (B : AfO (pDirs (l.drop j)) l okA true ys k)
    (hc : isB 4 ⟨#[123]⟩ l k = true) (C : Af (pSet d (l.drop k)) l true dp ok' dp' s m) : Af (fin d P) l true dp ok' dp' (⟨1, al, nm, xs, ys⟩, s) m := by
  have E := ((fld_end (d := d) h hP A B).2 rfl).1
  rw [hc] at E
  replace E : fin d P = (match pSet d (l.drop k) with | .ok s r1 => .ok (⟨1, al, nm, xs, ys⟩, s) r1 | .form => .form | .deep => .deep) := E
  refine ⟨C.le, fun q => ?_, fun q => ?_⟩
  · obtain ⟨h1, h2, h3, h4⟩ := C.yes q
    exact ⟨rfl, h2, h3, by rw [E, h4]⟩
  · rcases C.no q with ⟨e, _⟩ | ⟨_, e1, e2⟩ | ⟨_, e1, e2⟩
    · cases e
    · exact .inr (.inl ⟨rfl, by rw [E, e1], e2⟩)
    · exact .inr (.inr ⟨rfl, by rw [E, e1], e2⟩)
/-- A field's names. -/
theorem fld_one {l : List Tk} (h : TkG l) {i p1 : Nat} {b1 : Bool} {n1 : ByteArray} (h1 : b1 = nmB l i) (hn : n1 = nmI l i) (hp : p1 = adv b1 i) (hc : isB 4 ⟨#[58]⟩ l p1 = false) : pFld l i = if b1 = true then pFlA l ⟨#[]⟩ n1 p1 else none := by
  unfold pFld
  rcases nmB_nm h.ok' i with ⟨q1, q1'⟩ | ⟨q1, q1'⟩
  · rw [q1] at h1
    subst h1
    rw [adv_t] at hp
    rw [if_neg q1', if_pos rfl, ← hp, ← hn, ← isB_tk h.ok', hc, if_neg (by decide)]
  · rw [q1] at h1
    subst h1
    rw [if_pos q1', if_neg (by decide)]
theorem fld_two {l : List Tk} (h : TkG l) {i p1 p3 : Nat} {b1 b2 : Bool} {n1 n2 : ByteArray} (h1 : b1 = nmB l i) (hn : n1 = nmI l i) (hp : p1 = adv b1 i) (hc : isB 4 ⟨#[58]⟩ l p1 = true) (h2 : b2 = nmB l (p1 + 1)) (hn2 : n2 = nmI l (p1 + 1)) (hp3 : p3 = adv b2 (p1 + 1)) : pFld l i = if (b2 && b1) = true then pFlA l n1 n2 p3 else none := by
  unfold pFld
  rcases nmB_nm h.ok' i with ⟨q1, q1'⟩ | ⟨q1, q1'⟩
  · rw [q1] at h1
    subst h1
    rw [adv_t] at hp
    rw [if_neg q1', ← hp, ← isB_tk h.ok', hc, if_pos rfl, Bool.and_true]
    rw [← hn2, ← hn]
    rcases nmB_nm h.ok' (p1 + 1) with ⟨q2, q2'⟩ | ⟨q2, q2'⟩
    · rw [q2] at h2
      subst h2
      rw [adv_t] at hp3
      rw [← hn2] at q2'
      rw [if_neg q2', if_pos rfl, hp3]
    · rw [q2] at h2
      subst h2
      rw [← hn2] at q2'
      rw [if_pos q2', if_neg (by decide)]
  · rw [q1] at h1
    subst h1
    rw [if_pos q1', if_neg (by rw [Bool.and_false]; decide)]
theorem isB_on {l : List Tk} (h : TkOk l) (i : Nat) : (isB 1 ⟨#[111, 110]⟩ l i = true ∧ (nmI l i).toList = [111, 110]) ∨ (isB 1 ⟨#[111, 110]⟩ l i = false ∧ (nmI l i).toList ≠ [111, 110]) := by
  have hne : (⟨#[111, 110]⟩ : ByteArray).toList = [111, 110] := by rw [ByteArray.toList_eq]
  unfold isB nmI nxT
  by_cases hi : i < l.length
  · rw [List.getElem?_eq_getElem hi, decide_eq_true hi]
    by_cases hk : l[i].k = 1
    · simp only [hk, if_true, Bool.true_and, beq_self_eq_true]
      by_cases ht : l[i].t.toList = [111, 110]
      · exact .inl ⟨by rw [beq_iff_eq, hne]; exact ht, ht⟩
      · exact .inr ⟨by rw [beq_eq_false_iff_ne, hne]; exact ht, ht⟩
    · have hkb : (l[i].k == 1) = false := by rw [beq_eq_false_iff_ne]; exact hk
      refine .inr ⟨by simp [hkb], ?_⟩
      simp only [hk, if_false]
      rw [ByteArray.toList_eq]; decide
  · rw [List.getElem?_eq_none (by omega), decide_eq_false hi]
    refine .inr ⟨rfl, ?_⟩
    simp only
    rw [if_neg (by decide), ByteArray.toList_eq]; decide
/-- Behind '...': 'on' and a type. -/
theorem spr_on {l : List Tk} (h : TkG l) {i p3 : Nat} {b2 : Bool} {n2 : ByteArray} (hc : isB 1 ⟨#[111, 110]⟩ l i = true) (h2 : b2 = nmB l (i + 1)) (hn2 : n2 = nmI l (i + 1)) (hp3 : p3 = adv b2 (i + 1)) : pSpr l i = if b2 = true then (pDirs (l.drop p3)).map fun x => (⟨3, ⟨#[]⟩, n2, [], x.1⟩, true, x.2) else none := by
  rcases isB_on h.ok' i with ⟨q1, q1'⟩ | ⟨q1, q1'⟩
  · unfold pSpr
    rw [if_neg (by rw [q1']; decide), if_pos q1', ← hn2]
    rcases nmB_nm h.ok' (i + 1) with ⟨q2, q2'⟩ | ⟨q2, q2'⟩
    · rw [q2] at h2
      subst h2
      rw [adv_t] at hp3
      rw [← hn2] at q2'
      rw [if_neg q2', if_pos rfl, hp3]
    · rw [q2] at h2
      subst h2
      rw [← hn2] at q2'
      rw [if_pos q2', if_neg (by decide)]
  · rw [q1] at hc; cases hc
theorem spr_name {l : List Tk} (h : TkG l) {i : Nat} {n2 : ByteArray} (hc : isB 1 ⟨#[111, 110]⟩ l i = false) (h2 : nmB l i = true) (hn2 : n2 = nmI l i) : pSpr l i = if true = true then (pDirs (l.drop (i + 1))).map fun x => (⟨2, ⟨#[]⟩, n2, [], x.1⟩, false, x.2) else none := by
  rcases isB_on h.ok' i with ⟨q1, q1'⟩ | ⟨q1, q1'⟩
  · rw [q1] at hc; cases hc
  · rcases nmB_nm h.ok' i with ⟨q2, q2'⟩ | ⟨q2, q2'⟩
    · unfold pSpr
      rw [if_neg q2', if_neg q1', if_pos rfl, hn2]
    · rw [q2] at h2; cases h2
theorem spr_bare {l : List Tk} (h : TkG l) {i : Nat} (h2 : nmB l i = false) : pSpr l i = if true = true then (pDirs (l.drop i)).map fun x => (⟨3, ⟨#[]⟩, ⟨#[]⟩, [], x.1⟩, true, x.2) else none := by
  rcases nmB_nm h.ok' i with ⟨q2, q2'⟩ | ⟨q2, q2'⟩
  · rw [q2] at h2; cases h2
  · unfold pSpr
    rw [if_pos q2', if_pos rfl]
/-- Selections that are read behind what was read. -/
structure LpP (d : Nat) (Q : PR Sels) (l : List Tk) (ok0 dp0 ok dp : Bool) (g : List (Hd × Sels)) (k : Nat) : Prop where
  le : k ≤ l.length + 1
  yes : ok = true → ok0 = true ∧ dp = dp0 ∧ k ≤ l.length ∧ g.length ≤ k ∧ Q = (pL d (l.drop k)).pre g
  no : ok = false → (ok0 = false ∧ dp = dp0) ∨ (ok0 = true ∧ Q = .form ∧ dp = dp0) ∨ (ok0 = true ∧ Q = .deep ∧ dp = true)
theorem sels_step {d : Nat} {Q : PR Sels} {l : List Tk} (h : TkG l) {ok0 dp0 dp ok' dp' : Bool} {g : List (Hd × Sels)} {x : Hd × Sels} {k j : Nat} (H : LpP d Q l ok0 dp0 true dp g k) (hc : isB 4 ⟨#[125]⟩ l k = false) (A : Af (pSel d (l.drop k)) l true dp ok' dp' x j) : LpP d Q l ok0 dp0 ok' dp' (g ++ [x]) j ∧ (ok' = true → k < j) := by
  obtain ⟨h0, hd, hk, hg, hQ⟩ := H.yes rfl
  rw [isB_tk h.ok'] at hc
  rw [pL_go h hc] at hQ
  obtain ⟨hx, sx⟩ := x
  refine ⟨⟨A.le, fun q => ?_, fun q => ?_⟩, fun q => ?_⟩
  · obtain ⟨_, hd2, hj, hp⟩ := A.yes q
    have := drop_lt (r := l) hj (pSel_len hp)
    refine ⟨h0, hd2.trans hd, hj, by simp; omega, ?_⟩
    rw [hQ]; exact pL1_step hp g
  · rcases A.no q with ⟨e, _⟩ | ⟨_, e, e2⟩ | ⟨_, e, e2⟩
    · cases e
    · exact .inr (.inl ⟨h0, by rw [hQ]; unfold pL1; rw [e]; rfl, e2.trans hd⟩)
    · exact .inr (.inr ⟨h0, by rw [hQ]; unfold pL1; rw [e]; rfl, e2⟩)
  · obtain ⟨_, _, hj, hp⟩ := A.yes q
    exact drop_lt (r := l) hj (pSel_len hp)
/-- A set's end. -/
theorem sels_out {d : Nat} {Q : PR Sels} {l : List Tk} {ok0 dp0 dp : Bool} {s : Sels} {k : Nat} (hk : k ≤ l.length + 1) (H : (ok0 = false ∧ dp = dp0) ∨ (ok0 = true ∧ Q = .form ∧ dp = dp0) ∨ (ok0 = true ∧ Q = .deep ∧ dp = true)) : Af Q l ok0 dp0 false dp s k :=
  ⟨hk, fun q => (by cases q), fun _ => H⟩
theorem pSet_in {l : List Tk} (h : TkG l) {d i : Nat} (hd : d ≠ 0) (hm : isB 4 ⟨#[123]⟩ l i = true) : pSet d (l.drop i) = match pL d (l.drop (i + 1)) with | .ok .nil _ => .form | x => x := by
  rw [isB_tk h.ok'] at hm
  unfold pSet
  rw [show atM [123] (l.drop i) = _ from at_lit h #[123] i, if_pos hm, if_neg hd, drop2]
  generalize pL d (l.drop (i + 1)) = z
  cases z with
  | ok s r => cases s <;> rfl
  | form => rfl
  | deep => rfl
theorem sels_no {l : List Tk} (h : TkG l) {d i k : Nat} (hd : d ≠ 0) (hm : isB 4 ⟨#[123]⟩ l i = true) {ok0 dp0 dp : Bool} {s : Sels} (hk : k ≤ l.length + 1) (H : (ok0 = false ∧ dp = dp0) ∨ (ok0 = true ∧ pL d (l.drop (i + 1)) = .form ∧ dp = dp0) ∨ (ok0 = true ∧ pL d (l.drop (i + 1)) = .deep ∧ dp = true)) : Af (pSet d (l.drop i)) l ok0 dp0 false dp s k := by
  refine sels_out (d := d) hk ?_
  rcases H with e | ⟨e, e1, e2⟩ | ⟨e, e1, e2⟩
  · exact .inl e
  · exact .inr (.inl ⟨e, by rw [pSet_in h hd hm, e1], e2⟩)
  · exact .inr (.inr ⟨e, by rw [pSet_in h hd hm, e1], e2⟩)
theorem sels_end {l : List Tk} (h : TkG l) {d i k : Nat} (hd : d ≠ 0) (hm : isB 4 ⟨#[123]⟩ l i = true) {ok0 dp0 dp : Bool} {g : List (Hd × Sels)} (H : LpP d (pL d (l.drop (i + 1))) l ok0 dp0 true dp g k) (hc : isB 4 ⟨#[125]⟩ l k = true) : Af (pSet d (l.drop i)) l ok0 dp0 (decide (0 < g.length)) dp (app g .nil) (k + 1) := by
  obtain ⟨h0, hdp, hk, hg, hQ⟩ := H.yes rfl
  have hlt := isB_lt hc
  rw [isB_tk h.ok'] at hc
  rw [pL_end h hc] at hQ
  replace hQ : pL d (l.drop (i + 1)) = .ok (app g .nil) (l.drop (k + 1)) := hQ
  have hP := pSet_in h hd hm
  rw [hQ] at hP
  cases g with
  | nil => exact ⟨by omega, fun q => absurd q (by decide), fun q => .inr (.inl ⟨h0, hP, hdp⟩)⟩
  | cons a b => exact ⟨by omega, fun q => ⟨h0, hdp, hlt, hP⟩, fun q => absurd q (by simp)⟩
theorem set_form {l : List Tk} (h : TkG l) {d i k : Nat} {ok0 dp0 : Bool} {s : Sels} (hm : isB 4 ⟨#[123]⟩ l i = false) (hk : k ≤ l.length + 1) : Af (pSet d (l.drop i)) l ok0 dp0 false dp0 s k := by
  refine sels_out (d := d) hk ?_
  cases ok0 with
  | false => exact .inl ⟨rfl, rfl⟩
  | true =>
    rw [isB_tk h.ok'] at hm
    exact .inr (.inl ⟨rfl, by rw [pSet_at h, if_neg (by rw [hm]; decide)], rfl⟩)
theorem set_deep {l : List Tk} (h : TkG l) {i k : Nat} {dp0 : Bool} {s : Sels} (hm : isB 4 ⟨#[123]⟩ l i = true) (hk : k ≤ l.length + 1) : Af (pSet 0 (l.drop i)) l true dp0 false true s k := by
  refine sels_out (d := 0) hk (.inr (.inr ⟨rfl, ?_, rfl⟩))
  rw [isB_tk h.ok'] at hm
  rw [pSet_at h, if_pos hm, if_pos rfl]
end Go.Proofs.YtlilfbcngncllaaGreatDoor
namespace Go.Proofs.YtlilfbcngncllaaGreatDoor
open Go.ChangeShapes Go.WideShapes Go.ChangeAt Go.RowKit
set_option linter.unusedVariables false

theorem RsSt.deep_ {w : World} {L c i : Nat} {a : Option Addr} {l : List Tk} {ok dp : Bool} (h : RsSt w L a c l i ok dp) (b : Bool) : RsSt (w.setCell ⟨L, 3, none⟩ (.bool b)) L a c l i ok b :=
  ⟨row_set h.cell 3 (.bool b), h.row.same fun g hg => heap_setCell_other _ _ _ _ (by show g ≠ L; omega)⟩
/-- A set is told, a row of its own, whatever the flags. -/
def SelsS (P : PR Sels) (L : Nat) (a : Option Addr) (c : Nat) (l : List Tk) (ok dp : Bool) (w : World) (e : Ending) (w' : World) : Prop :=
  ∃ s j a' c' ok' dp', e = .returned (.slice a' s.len c') ∧ RowB w.heap.size w' (.slice a' s.len c') s ∧ RsSt w' L a c l j ok' dp' ∧ Af P l ok dp ok' dp' s j ∧ w.grownBy w' (some L)
def SelS (P : PR (Hd × Sels)) (L : Nat) (a : Option Addr) (c : Nat) (l : List Tk) (ok dp : Bool) (w : World) (e : Ending) (w' : World) : Prop :=
  ∃ h sub j a3 c3 a4 c4 a5 c5 ok' dp', e = .returned (.agg #[.int .i64 h.k, .string h.al, .string h.nm, .slice a3 h.args.length c3, .slice a4 h.dirs.length c4, .slice a5 sub.len c5]) ∧
    OneB w.heap.size w' h sub (.slice a3 h.args.length c3) (.slice a4 h.dirs.length c4) (.slice a5 sub.len c5) ∧ RsSt w' L a c l j ok' dp' ∧ Af P l ok dp ok' dp' (h, sub) j ∧ w.grownBy w' (some L)
def SetsOk (d : Nat) : Prop := ∀ (D : Int) (L c i : Nat) (a : Option Addr) (l : List Tk) (ok dp : Bool) (w : World), D = d → RsSt w L a c l i ok dp → TkG l → i ≤ l.length + 1 → (ok = true → i ≤ l.length) →
    Calls Tryz.prog 35 #[.pointer (some ⟨L, 0, none⟩), .int .i64 D] w (SelsS (pSet d (l.drop i)) L a c l ok dp w)
def OneOk (d : Nat) : Prop := ∀ (D : Int) (L c i : Nat) (a : Option Addr) (l : List Tk) (dp : Bool) (w : World), D = (d + 1 : Nat) → RsSt w L a c l i true dp → TkG l → i ≤ l.length →
    Calls Tryz.prog 62 #[.pointer (some ⟨L, 0, none⟩), .int .i64 D] w (SelS (pSel (d + 1) (l.drop i)) L a c l true dp w)
theorem RowK.made {w V : World} (hV : V = w.alloc (.cells #[] 84)) : RowK w.heap.size V (.slice (some ⟨w.heap.size, 0, none⟩) 0 0) .nil [] [] :=
  ⟨own_made hV (Nat.le_refl _), ⟨rfl, rfl⟩, by rw [List.append_nil]; exact blk_nd _, fun g hg => by simp at hg⟩
set_option maxHeartbeats 8000000 in
theorem ps_sels (d : Nat) (hone : ∀ d', d = d' + 1 → OneOk d') : SetsOk d := by
  intro D L c i a l ok dp w hD h hl hi hok
  have HG : Hid _ := hl
  have HLN : Hid (l.length ≤ 1048576) := hl.len
  have hln := hl.len
  have hLw := h.lt
  have HD : Hid (D = d) := hD
  obtain ⟨V, hV⟩ : ∃ V, V = w.alloc (.cells #[] 84) := ⟨_, rfl⟩
  have BV : Below w.heap.size w V := by rw [hV]; exact (Below.refl _ _).alloc (Nat.le_refl _) _
  have OV : Hid (RowK w.heap.size V (.slice (some ⟨w.heap.size, 0, none⟩) 0 0) .nil [] []) := RowK.made hV
  have HQ : Hid _ := rs_need ⟨#[123]⟩ L c i a l ok dp V (h.below BV) (by omega)
  have GV : Hid (w.grownBy V (some L)) := grown_below (grown_refl w _) BV
  obtain ⟨b0, HB0⟩ : ∃ r, Hid (r = isB 4 ⟨#[123]⟩ l i) := ⟨_, rfl⟩
  obtain ⟨i1, HI1⟩ : ∃ z, Hid (z = adv b0 i) := ⟨_, rfl⟩
  obtain ⟨okN, HON⟩ : ∃ z, Hid (z = (b0 && ok)) := ⟨_, rfl⟩
  have hi1 : i1 ≤ l.length + 1 := by rw [HI1.out, HB0.out]; exact adv_isB hi (by omega)
  rw [← HB0.out, ← HI1.out, ← HON.out] at HQ
  have HOK : Hid _ := hok
  have HI : Hid _ := hi
  obtain ⟨P, HP⟩ : ∃ z, Hid (z = pSet d (l.drop i)) := ⟨_, rfl⟩
  rw [← HP.out]
  have HONE : Hid _ := hone
  clear h hl hok hi BV hD hone
  go_enter Tryz.func35, Tryz.ntmps35
  go_upto_region 2 with fail
  rw [← hV]
  clear hV
  go_wp2_with fail
  refine Calls.mono HQ.out ?_
  rintro e w1 ⟨rfl, s1, g1⟩
  have S1 : Hid _ := s1
  have G1 : Hid (w.grownBy w1 (some L)) := grown_trans GV.out g1
  have O1 : Hid (RowK w.heap.size w1 (.slice (some ⟨w.heap.size, 0, none⟩) 0 0) .nil [] []) := OV.out.grow g1 hLw
  have xL := fun o => row_cell s1.cell o
  have fL := fun o => row_frozen s1.cell o
  clear s1 g1 HQ GV OV
  have hcase : (okN = false) ∨ (okN = true ∧ d = 0) ∨ (okN = true ∧ d ≠ 0) := by
    cases okN with
    | false => exact .inl rfl
    | true => by_cases h0 : d = 0
              · exact .inr (.inl ⟨rfl, h0⟩)
              · exact .inr (.inr ⟨rfl, h0⟩)
  rcases hcase with rfl | ⟨rfl, hd0⟩ | ⟨rfl, hd0⟩
  case' inl =>
    have F0 : Hid (∀ k, k ≤ l.length + 1 → ∀ s : Sels, k = i1 → Af P l ok dp false dp s k) := fun k hk s _ => by
      rw [HP.out]
      cases hb : b0 with
      | false => exact set_form HG.out (by rw [← HB0.out]; exact hb) hk
      | true =>
        have : ok = false := by have := HON.out; rw [hb, Bool.true_and] at this; exact this.symm
        subst this
        exact sels_out (d := d) hk (.inl ⟨rfl, rfl⟩)
    have HS2 : Hid (RsSt w1 L a c l i1 false dp) := S1.out
    have G2 : Hid (w.grownBy w1 (some L)) := G1.out
    have O2 : Hid (RowK w.heap.size w1 (.slice (some ⟨w.heap.size, 0, none⟩) 0 0) .nil [] []) := O1.out
    clear S1 G1 O1
  case' inr.inl =>
    have hdb : (D == 0) = true := by rw [HD.out, hd0]; rfl
    have F0 : Hid (∀ k, k ≤ l.length + 1 → ∀ s : Sels, k = i1 → Af P l ok dp false true s k) := fun k hk s _ => by
      have h2 := HON.out
      cases hb : b0 with
      | false => rw [hb] at h2; cases h2
      | true =>
        rw [hb, Bool.true_and] at h2
        subst h2
        rw [HP.out, hd0]
        exact set_deep HG.out (by rw [← HB0.out]; exact hb) hk
    have HS2 : Hid (RsSt ((w1.setCell ⟨L, 3, none⟩ (.bool true)).setCell ⟨L, 2, none⟩ (.bool false)) L a c l i1 false true) := (S1.out.deep_ true).ok_ false
    have G2 : Hid (w.grownBy ((w1.setCell ⟨L, 3, none⟩ (.bool true)).setCell ⟨L, 2, none⟩ (.bool false)) (some L)) := grown_set (grown_set G1.out _ _) _ _
    have O2 : Hid (RowK w.heap.size ((w1.setCell ⟨L, 3, none⟩ (.bool true)).setCell ⟨L, 2, none⟩ (.bool false)) (.slice (some ⟨w.heap.size, 0, none⟩) 0 0) .nil [] []) := O1.out.grow (grown_set (grown_set (grown_refl _ _) _ _) _ _) hLw
    clear S1 G1 O1
  case' inr.inr =>
    have hdb : (D == 0) = false := by rw [HD.out]; simp; omega
    have F0 : Hid (True) := trivial
    have HS2 : Hid (RsSt w1 L a c l i1 true dp) := S1.out
    have G2 : Hid (w.grownBy w1 (some L)) := G1.out
    have O2 : Hid (RowK w.heap.size w1 (.slice (some ⟨w.heap.size, 0, none⟩) 0 0) .nil [] []) := O1.out
    clear S1 G1 O1
  case inl =>
    obtain ⟨X, hX⟩ : ∃ X : World, X = w1 := ⟨_, rfl⟩
    rw [← hX] at HS2 G2 O2
    have q0 : Hid (RsSt (X.setCell ⟨L, 2, none⟩ (.bool false)) L a c l i1 false dp) := HS2.out.ok_ false
    have q1 : Hid (w.grownBy (X.setCell ⟨L, 2, none⟩ (.bool false)) (some L)) := grown_set G2.out _ _
    have q2 : Hid (RowK w.heap.size (X.setCell ⟨L, 2, none⟩ (.bool false)) (.slice (some ⟨w.heap.size, 0, none⟩) 0 0) .nil [] []) := O2.out.grow (grown_set (grown_refl _ _) _ _) hLw
    go_wp2_with fail
    rw [← hX]
    clear xL fL
    have xL := fun o => row_cell HS2.out.cell o
    have fL := fun o => row_frozen HS2.out.cell o
    clear HS2 G2 O2 hX
    go_loopw [5] (fun v w' => v = .slice (some ⟨w.heap.size, 0, none⟩) 0 0 ∧ w' = X) (fun _ w' => rsM (l.length + 3) w' L)
    case atStart => exact ⟨rfl, rfl⟩
    case round =>
      obtain ⟨rfl, hw⟩ := hrel
      rw [hw]
      clear hw
      go_wp2_with fail
      go_ret
      exact ⟨.nil, i1, _, 0, false, dp, rfl, ⟨[], [], q2.out⟩, q0.out, F0.out _ hi1 _ rfl, q1.out⟩
  case inr.inl =>
    obtain ⟨X, hX⟩ : ∃ X : World, X = (w1.setCell ⟨L, 3, none⟩ (.bool true)).setCell ⟨L, 2, none⟩ (.bool false) := ⟨_, rfl⟩
    rw [← hX] at HS2 G2 O2
    have q0 : Hid (RsSt (X.setCell ⟨L, 2, none⟩ (.bool false)) L a c l i1 false true) := HS2.out.ok_ false
    have q1 : Hid (w.grownBy (X.setCell ⟨L, 2, none⟩ (.bool false)) (some L)) := grown_set G2.out _ _
    have q2 : Hid (RowK w.heap.size (X.setCell ⟨L, 2, none⟩ (.bool false)) (.slice (some ⟨w.heap.size, 0, none⟩) 0 0) .nil [] []) := O2.out.grow (grown_set (grown_refl _ _) _ _) hLw
    go_wp2_with fail
    rw [← hX]
    clear xL fL
    have xL := fun o => row_cell HS2.out.cell o
    have fL := fun o => row_frozen HS2.out.cell o
    clear HS2 G2 O2 hX
    go_loopw [5] (fun v w' => v = .slice (some ⟨w.heap.size, 0, none⟩) 0 0 ∧ w' = X) (fun _ w' => rsM (l.length + 3) w' L)
    case atStart => exact ⟨rfl, rfl⟩
    case round =>
      obtain ⟨rfl, hw⟩ := hrel
      rw [hw]
      clear hw
      go_wp2_with fail
      go_ret
      exact ⟨.nil, i1, _, 0, false, true, rfl, ⟨[], [], q2.out⟩, q0.out, F0.out _ hi1 _ rfl, q1.out⟩
  case inr.inr =>
    clear F0
    obtain ⟨dd, hdd⟩ : ∃ z, d = z + 1 := ⟨d - 1, by omega⟩
    have hon2 : b0 = true ∧ ok = true := by
      have := HON.out
      cases b0 <;> cases ok <;> first | exact ⟨rfl, rfl⟩ | cases this
    have HON2 : Hid (b0 = true ∧ ok = true) := hon2
    clear hon2
    have HB : Hid (isB 4 ⟨#[123]⟩ l i = true) := by rw [Hid, ← HB0.out]; exact HON2.out.1
    have hlt : i < l.length := isB_lt HB.out
    have HI1' : Hid (i1 = i + 1) := by rw [Hid, HI1.out, HON2.out.1]; rfl
    have hi1' := HI1'.out
    have HSEL : Hid (OneOk dd) := HONE.out dd hdd
    have HD1 : Hid (D = (dd + 1 : Nat)) := by rw [Hid, HD.out, hdd]
    have HD0 : Hid (d ≠ 0) := hd0
    have HOKT : Hid (ok = true) := HON2.out.2
    obtain ⟨Q, HQ0⟩ : ∃ z, Hid (z = pL d (l.drop (i + 1))) := ⟨_, rfl⟩
    have L0 : Hid (LpP d Q l ok dp true dp [] i1) := by
      refine ⟨by omega, fun _ => ⟨HOKT.out, rfl, by omega, Nat.zero_le _, ?_⟩, fun q => (by cases q)⟩
      rw [HQ0.out, hi1', pre_nil]
    have HDD : Hid (d = dd + 1) := hdd
    clear HI1 HON HON2 HB0 hd0 HONE hi1' hlt hdd
    go_wp2_with fail
    clear xL fL hdb
    go_loopw [5] (fun v w' => ∃ (g : List (Hd × Sels)) (ws : List Value) (bk : List Nat) (a' : Option Addr) (c' k : Nat) (ok2 dp2 : Bool), v = .slice a' g.length c' ∧ k ≤ l.length + 1 ∧ Hid (RsSt w' L a c l k ok2 dp2) ∧ Hid (w.grownBy w' (some L)) ∧ Hid (RowK w.heap.size w' (.slice a' g.length c') (app g .nil) ws bk) ∧ Hid (LpP d Q l ok dp ok2 dp2 g k)) (fun _ w' => rsM (l.length + 3) w' L)
    case atStart => exact ⟨[], [], [], _, 0, i1, true, dp, rfl, L0.out.le, HS2, G2, O2, L0⟩
    case round =>
      obtain ⟨g, ws, bk, a', c', k, ok2, dp2, rfl, hk, HS, HGR, HO, HL⟩ := hrel
      obtain ⟨wo, rfl⟩ : ∃ z, z = wr := ⟨_, rfl⟩
      have xL := fun o => row_cell HS.out.cell o
      clear L0 HS2 G2 O2
      have hgl : (app g Sels.nil).len = g.length := by rw [app_len]; rfl
      have HGL : Hid ((app g Sels.nil).len = g.length) := hgl
      clear hgl
      cases ok2 with
      | false =>
        have HA : Hid (Af P l ok dp false dp2 (app g .nil) k) := by
          rw [Hid, HP.out]
          exact sels_no HG.out HD0.out HB.out hk (by rw [← HQ0.out]; exact HL.out.no rfl)
        have fL := fun o => row_frozen HS.out.cell o
        have S9 : Hid (RsSt (wo.setCell ⟨L, 2, none⟩ (.bool false)) L a c l k false dp2) := HS.out.ok_ false
        have G9 : Hid (w.grownBy (wo.setCell ⟨L, 2, none⟩ (.bool false)) (some L)) := grown_set HGR.out _ _
        have O9 : Hid (RowK w.heap.size (wo.setCell ⟨L, 2, none⟩ (.bool false)) (.slice a' g.length c') (app g .nil) ws bk) := HO.out.grow (grown_set (grown_refl _ _) _ _) hLw
        clear HL HGR HO HS
        go_wp2_with fail
        go_ret
        exact ⟨app g .nil, k, a', c', false, dp2, by rw [HGL.out]; rfl, ⟨ws, bk, by rw [HGL.out]; exact O9.out⟩, S9.out, HA.out, G9.out⟩
      | true =>
        have HPO : Hid (rsM (l.length + 3) wo L = l.length + 3 - k) := rsM_true HS.out
        have hk2 : k ≤ l.length := (HL.out.yes rfl).2.2.1
        have hgk : g.length ≤ k := (HL.out.yes rfl).2.2.2.1
        have HQ : Hid _ := rs_take ⟨#[125]⟩ L c k a l true dp2 wo HS.out (by omega)
        obtain ⟨r, HR⟩ : ∃ r, Hid (r = isB 4 ⟨#[125]⟩ l k) := ⟨_, rfl⟩
        rw [← HR.out] at HQ
        go_wp2_with fail
        refine Calls.mono HQ.out ?_
        rintro e w2 ⟨rfl, s2, g2⟩
        have S2 : Hid _ := s2
        have G2 : Hid (w.grownBy w2 (some L)) := grown_trans HGR.out g2
        have O2 : Hid (RowK w.heap.size w2 (.slice a' g.length c') (app g .nil) ws bk) := HO.out.grow g2 hLw
        clear s2 g2 HQ HS HGR HO xL
        cases r with
        | true =>
          have HA : Hid (Af P l ok dp (decide (0 < g.length)) dp2 (app g .nil) (k + 1)) := by
            rw [Hid, HP.out]
            exact sels_end HG.out HD0.out HB.out (by rw [← HQ0.out]; exact HL.out) HR.out.symm
          have xL := fun o => row_cell S2.out.cell o
          have fL := fun o => row_frozen S2.out.cell o
          clear HL HPO HR
          by_cases h0 : g.length = 0
          case' pos =>
            have hd : decide (0 < g.length) = false := decide_eq_false (by omega)
            obtain ⟨bz, hbz⟩ : ∃ z : Bool, z = false := ⟨_, rfl⟩
          case' neg =>
            have hd : decide (0 < g.length) = true := decide_eq_true (by omega)
            have hd2 : (0 : Int) < g.length := by omega
            obtain ⟨bz, hbz⟩ : ∃ z : Bool, z = true := ⟨_, rfl⟩
          all_goals
            rw [hd] at HA
            rw [← hbz] at HA
            have S9 : Hid (RsSt (w2.setCell ⟨L, 2, none⟩ (.bool bz)) L a c l (k + 1) bz dp2) := S2.out.ok_ _
            have G9 : Hid (w.grownBy (w2.setCell ⟨L, 2, none⟩ (.bool bz)) (some L)) := grown_set G2.out _ _
            have O9 : Hid (RowK w.heap.size (w2.setCell ⟨L, 2, none⟩ (.bool bz)) (.slice a' g.length c') (app g .nil) ws bk) := O2.out.grow (grown_set (grown_refl _ _) _ _) hLw
            rw [hbz] at S9 G9 O9 HA
            clear S2 G2 O2 h0 hbz
            go_wp2_with fail
            go_ret
            exact ⟨app g .nil, k + 1, a', c', _, dp2, by rw [HGL.out]; rfl, ⟨ws, bk, by rw [HGL.out]; exact O9.out⟩, S9.out, HA.out, G9.out⟩
        | false =>
          have HQ2 : Hid _ := HSEL.out D L c k a l dp2 w2 HD1.out S2.out HG.out hk2
          obtain ⟨R, HRR⟩ : ∃ z, Hid (z = pSel (dd + 1) (l.drop k)) := ⟨_, rfl⟩
          rw [← HRR.out] at HQ2
          go_wp2_with fail
          refine Calls.mono HQ2.out ?_
          rintro e w4 ⟨hd2, sub2, q, b3, e3, b4, e4, b5, e5, ok4, dp4, rfl, ⟨ws2, bk2, O4⟩, s4, hA, g4⟩
          rw [HRR.out, ← HDD.out] at hA
          have HST : Hid _ := sels_step HG.out HL.out HR.out.symm hA
          obtain ⟨U, hU⟩ : ∃ U, U = w4.alloc (.cells #[.int .i64 hd2.k, .string hd2.al, .string hd2.nm, .slice b3 hd2.args.length e3, .slice b4 hd2.dirs.length e4, .slice b5 sub2.len e5] 84) := ⟨_, rfl⟩
          have BU : Below w4.heap.size w4 U := by rw [hU]; exact (Below.refl _ _).alloc (Nat.le_refl _) _
          have cU : U.heap[w4.heap.size]? = some (.cells #[.int .i64 hd2.k, .string hd2.al, .string hd2.nm, .slice b3 hd2.args.length e3, .slice b4 hd2.dirs.length e4, .slice b5 sub2.len e5] 84 (0, 0)) := by rw [hU]; exact heap_alloc_new _ _
          have zU : U.heap.size = w4.heap.size + 1 := by rw [hU]; simp
          have G4 : Hid (w.grownBy U (some L)) := grown_below (grown_trans G2.out g4) BU
          have SU : Hid (RsSt U L a c l q ok4 dp4) := s4.below BU
          have hz3 := G2.out.size
          have O5 := ((O2.out.grow g4 hLw).keep BU.size fun x hx => BU.block x ((O2.out.grow g4 hLw).all x hx).2).own
          rw [HGL.out] at O5
          have z5 := G4.out.size
          obtain ⟨ig, hig, hzg, hsg, hbg⟩ := info_selS
          obtain ⟨g8, cap8, W8, hrun, o8, gr8, hat8, hlt8⟩ := run_append_lies (P := Tryz.prog) U 45 45 w.heap.size 84 ig _ 6 112 Tryz.underlying45 hig hzg hsg hbg rfl (by decide) (.slice a' g.length c') g.length ws O5 ⟨w4.heap.size, 0, none⟩ 1 1 [.int .i64 hd2.k, .string hd2.al, .string hd2.nm, .slice b3 hd2.args.length e3, .slice b4 hd2.dirs.length e4, .slice b5 sub2.len e5] rfl (fun t u ht => by
            rw [add_plain]
            have := row_cell cU (0 + t)
            rw [this, ← ht]
            simp) (fun u hu => by
              simp only [List.mem_cons, List.not_mem_nil, or_false] at hu
              rcases hu with rfl | rfl | rfl | rfl | rfl | rfl <;> rfl) (by omega) (by unfold maxLen; omega) (by omega) z5 _ rfl
          have R8 : Hid (RowK w.heap.size W8 (.slice (some ⟨g8, 0, none⟩) (g ++ [(hd2, sub2)]).length cap8) (app (g ++ [(hd2, sub2)]) .nil) (ws ++ [.int .i64 hd2.k, .string hd2.al, .string hd2.nm, .slice b3 hd2.args.length e3, .slice b4 hd2.dirs.length e4, .slice b5 sub2.len e5]) (bk ++ (blk (.slice b3 hd2.args.length e3) ++ (blk (.slice b4 hd2.dirs.length e4) ++ (blk (.slice b5 sub2.len e5) ++ bk2))))) := by
            refine RowK.push O2.out g4 hLw hz3 O4 BU gr8 hat8 ?_
            rw [app_len, List.length_append]
            exact o8
          have hoff : ∀ q, (Value.slice a' g.length c').ownBlock = some q → L < q := fun q hq => by have := (World.ownsRow.lt O5 q hq).1; omega
          have S8 : Hid (RsSt W8 L a c l q ok4 dp4) := SU.out.keep fun t ht => gr8.block t (by have := SU.out.lt; omega) (fun e => by have := hoff t e.symm; omega)
          have G8 : Hid (w.grownBy W8 (some L)) := grown_append G4.out gr8 (fun t ht => (World.ownsRow.lt O5 t ht).1)
          have HP8 : Hid (rsM (l.length + 3) W8 L < l.length + 3 - k) := rsM_any S8.out (by omega) HST.out.2
          have HL8 : Hid (LpP d Q l ok dp ok4 dp4 (g ++ [(hd2, sub2)]) q) := HST.out.1
          have HRUN : Hid _ := hrun
          have HU : Hid (U = _) := hU
          clear hU hrun o8 gr8 hat8 O5 cU BU g4 s4 HQ2 hoff O4 zU G2 O2 SU G4 HL hA
          go_wp2_with (first | (at_builtin; rw [← HU.out]; refine wpList_append_runR rfl _ _ _ rfl _ _ _ _ rfl rfl HRUN.out ?_) | fail)
          exact ⟨⟨g ++ [(hd2, sub2)], _, _, some ⟨g8, 0, none⟩, cap8, q, ok4, dp4, by simp, HST.out.1.le, S8, G8, R8, HL8⟩, by rw [HPO.out]; exact HP8.out⟩
end Go.Proofs.YtlilfbcngncllaaGreatDoor
namespace Go.Proofs.YtlilfbcngncllaaGreatDoor
open Go.ChangeShapes Go.WideShapes Go.ChangeAt Go.RowKit
set_option linter.unusedVariables false

theorem OneK.gen {base la ha ld hd ls hs : Nat} {W : World} {h : Hd} {sub : Sels} {va vd vs : Value} {ws : List Value} {bk : List Nat} (a : W.ownsRow 0 103 4 va h.args.length (arVs h.args)) (d : W.ownsRow 0 105 4 vd h.dirs.length (diVs h.dirs)) (s : W.ownsRow 0 84 6 vs sub.len ws) (k : KidB W sub ws bk) (nd : (blk vs ++ bk).Nodup)
    (ia : ∀ g ∈ blk va, la ≤ g ∧ g < ha) (id : ∀ g ∈ blk vd, ld ≤ g ∧ g < hd) (is : ∀ g ∈ blk vs ++ bk, ls ≤ g ∧ g < hs) (x1 : ha ≤ ld ∨ hd ≤ la) (x2 : ha ≤ ls ∨ hs ≤ la) (x3 : hd ≤ ls ∨ hs ≤ ld) (y1 : base ≤ la) (y2 : base ≤ ld) (y3 : base ≤ ls) (z1 : ha ≤ W.heap.size) (z2 : hd ≤ W.heap.size) (z3 : hs ≤ W.heap.size) : OneK base W h sub va vd vs ws bk := by
  refine ⟨a, d, s, k, ?_, fun g hg => ?_⟩
  · rw [List.nodup_append]
    refine ⟨blk_nd _, ?_, fun x hx y hy e => ?_⟩
    · rw [List.nodup_append]
      refine ⟨blk_nd _, nd, fun x hx y hy e => ?_⟩
      subst e
      have := id x hx
      have := is x hy
      omega
    · subst e
      have := ia x hx
      rcases List.mem_append.1 hy with hy | hy
      · have := id x hy; omega
      · have := is x hy; omega
  · rcases List.mem_append.1 hg with hg | hg
    · have := ia g hg; omega
    · rcases List.mem_append.1 hg with hg | hg
      · have := id g hg; omega
      · have := is g hg; omega
/-- The reader, the answer's block, the selection's block, the two empty lists that were made for it. -/
structure SeS (w : World) (L : Nat) (a : Option Addr) (c : Nat) (l : List Tk) (j : Nat) (ok dp : Bool) (cs : Array Value) (W : World) : Prop where
  rd : RsSt W L a c l j ok dp
  r : W.heap[w.heap.size]? = some (.cells #[.int .i64 0, .string ⟨#[]⟩, .string ⟨#[]⟩, .slice none 0 0, .slice none 0 0, .slice none 0 0] 84 (0, 0))
  x : W.heap[w.heap.size + 1 + 1 + 1]? = some (.cells cs 84 (0, 0))
  ea : W.heap[w.heap.size + 1]? = some (.cells #[] 103 (0, 0))
  es : W.heap[w.heap.size + 1 + 1]? = some (.cells #[] 84 (0, 0))
  gr : w.grownBy W (some L)
  hL : L < w.heap.size
  hz : w.heap.size + 4 ≤ W.heap.size
theorem SeS.call {w W W' : World} {L c j j' : Nat} {a : Option Addr} {l : List Tk} {ok dp ok' dp' : Bool} {cs : Array Value} (h : SeS w L a c l j ok dp cs W) (rd : RsSt W' L a c l j' ok' dp') (g : W.grownBy W' (some L)) : SeS w L a c l j' ok' dp' cs W' := by
  have hL := h.hL
  have hz := h.hz
  have hz2 := g.size
  exact ⟨rd, grown_keeps h.r (by omega) g (by omega), grown_keeps h.x (by omega) g (by omega), grown_keeps h.ea (by omega) g (by omega), grown_keeps h.es (by omega) g (by omega), grown_trans h.gr g, hL, by omega⟩
theorem SeS.put {w W : World} {L c j : Nat} {a : Option Addr} {l : List Tk} {ok dp : Bool} {cs : Array Value} (h : SeS w L a c l j ok dp cs W) (k : Nat) (v : Value) : SeS w L a c l j ok dp (cs.setIfInBounds k v) (W.setCell ⟨w.heap.size + 1 + 1 + 1, k, none⟩ v) := by
  have hL := h.hL
  have hz := h.hz
  have hz2 := ((Below.refl W.heap.size W).setCell (p := ⟨W.heap.size, k, none⟩) (Nat.le_refl _) v).size
  have hz3 : W.heap.size ≤ (W.setCell ⟨w.heap.size + 1 + 1 + 1, k, none⟩ v).heap.size := ((Below.refl 0 W).setCell (p := ⟨w.heap.size + 1 + 1 + 1, k, none⟩) (Nat.zero_le _) v).size
  refine ⟨h.rd.keep fun g hg => heap_setCell_other _ _ _ _ (by show g ≠ w.heap.size + 1 + 1 + 1; omega), ?_, row_set h.x k v, ?_, ?_, grown_new h.gr (by omega) _, hL, by omega⟩
  · rw [heap_setCell_other _ _ _ _ (by show w.heap.size ≠ w.heap.size + 1 + 1 + 1; omega)]; exact h.r
  · rw [heap_setCell_other _ _ _ _ (by show w.heap.size + 1 ≠ w.heap.size + 1 + 1 + 1; omega)]; exact h.ea
  · rw [heap_setCell_other _ _ _ _ (by show w.heap.size + 1 + 1 ≠ w.heap.size + 1 + 1 + 1; omega)]; exact h.es
theorem SeS.at_ {w W : World} {L c j : Nat} {a : Option Addr} {l : List Tk} {ok dp : Bool} {cs : Array Value} (h : SeS w L a c l j ok dp cs W) (i : Nat) : SeS w L a c l i ok dp cs (W.setCell ⟨L, 1, none⟩ (.int .i64 i)) :=
  h.call (h.rd.at_ i) (grown_set (grown_refl _ _) _ _)
theorem SeS.drewN {w W : World} {L c j : Nat} {a : Option Addr} {l : List Tk} {ok dp : Bool} {cs : Array Value} (h : SeS w L a c l j ok dp cs W) (n : Nat) : SeS w L a c l j ok dp cs (W.drewN n) :=
  h.call (h.rd.drewN n) (grown_drewN W n _)
theorem own_far {W : World} {base N k size n : Nat} {e : TypeId} {v x : Value} {xs : List Value} (h : W.ownsRow base e size v n xs) (hN : N < base) : (W.setCell ⟨N, k, none⟩ x).ownsRow base e size v n xs :=
  own_grown h (grown_set (grown_refl W (some N)) k x) hN
theorem RowK.far {W : World} {base N k : Nat} {V x : Value} {s : Sels} {ws : List Value} {bk : List Nat} (h : RowK base W V s ws bk) (hN : N < base) : RowK base (W.setCell ⟨N, k, none⟩ x) V s ws bk :=
  h.grow (grown_set (grown_refl W (some N)) k x) hN
theorem SeS.args {w W : World} {L c j : Nat} {a : Option Addr} {l : List Tk} {ok dp : Bool} {cs : Array Value} (h : SeS w L a c l j ok dp cs W) : W.ownsRow (w.heap.size + 1) 103 4 (.slice (some ⟨w.heap.size + 1, 0, none⟩) 0 0) 0 [] :=
  ⟨rfl, .inr ⟨w.heap.size + 1, 0, _, rfl, Nat.le_refl _, h.ea, Nat.le_refl _, Nat.zero_le _, rfl, rfl⟩⟩
theorem SeS.sels {w W : World} {L c j : Nat} {a : Option Addr} {l : List Tk} {ok dp : Bool} {cs : Array Value} (h : SeS w L a c l j ok dp cs W) : RowK (w.heap.size + 1 + 1) W (.slice (some ⟨w.heap.size + 1 + 1, 0, none⟩) 0 0) .nil [] [] :=
  ⟨⟨rfl, .inr ⟨w.heap.size + 1 + 1, 0, _, rfl, Nat.le_refl _, h.es, Nat.le_refl _, Nat.zero_le _, rfl, rfl⟩⟩, ⟨rfl, rfl⟩, by rw [List.append_nil]; exact blk_nd _, fun g hg => by simp at hg⟩
/-- The selection is told. -/
theorem SeS.done {w W : World} {L c j : Nat} {a : Option Addr} {l : List Tk} {ok dp : Bool} {y0 y1 y2 y3 y4 y5 : Value} {h : Hd} {sub : Sels} (H : SeS w L a c l j ok dp #[y0, y1, y2, y3, y4, y5] W) (O : OneB (w.heap.size + 1) W h sub y3 y4 y5) :
    RsSt (put6w W w.heap.size y0 y1 y2 y3 y4 y5) L a c l j ok dp ∧ OneB w.heap.size (put6w W w.heap.size y0 y1 y2 y3 y4 y5) h sub y3 y4 y5 ∧ w.grownBy (put6w W w.heap.size y0 y1 y2 y3 y4 y5) (some L) ∧
      (put6w W w.heap.size y0 y1 y2 y3 y4 y5).heap[w.heap.size]? = some (.cells #[y0, y1, y2, y3, y4, y5] 84 (0, 0)) := by
  have low := H.hL
  refine ⟨H.rd.keep fun g hg => ?_, ?_, ?_, ?_⟩
  · unfold put6w
    rw [heap_setCell_other _ _ _ _ (by show g ≠ w.heap.size; omega), heap_setCell_other _ _ _ _ (by show g ≠ w.heap.size; omega), heap_setCell_other _ _ _ _ (by show g ≠ w.heap.size; omega), heap_setCell_other _ _ _ _ (by show g ≠ w.heap.size; omega), heap_setCell_other _ _ _ _ (by show g ≠ w.heap.size; omega), heap_setCell_other _ _ _ _ (by show g ≠ w.heap.size; omega)]
  · obtain ⟨ws, bk, O6⟩ := (((((O.set (k := 0) y0 (N := w.heap.size) (by omega)).set (k := 1) y1 (N := w.heap.size) (by omega)).set (k := 2) y2 (N := w.heap.size) (by omega)).set (k := 3) y3 (N := w.heap.size) (by omega)).set (k := 4) y4 (N := w.heap.size) (by omega)).set (k := 5) y5 (N := w.heap.size) (by omega)
    exact ⟨ws, bk, O6.low (by omega)⟩
  · exact grown_new (grown_new (grown_new (grown_new (grown_new (grown_new H.gr (Nat.le_refl _) _) (Nat.le_refl _) _) (Nat.le_refl _) _) (Nat.le_refl _) _) (Nat.le_refl _) _) (Nat.le_refl _) _
  · exact row_set (row_set (row_set (row_set (row_set (row_set H.r 0 y0) 1 y1) 2 y2) 3 y3) 4 y4) 5 y5
theorem results_selS (tmps : Array Value) (W : World) (N : Nat) (cs : Array Value) (h2 : tmps.getD 4 undef = .pointer (some ⟨N, 0, none⟩)) (hrow : W.heap[N]? = some (.cells cs 84 (0, 0))) (hsz : cs.size = 6) :
    (results Tryz.f62 tmps).run Tryz.prog W = .ok (.agg cs) W := by
  have c39 : (Tryz.prog.info? 84).map (·.size) = some 6 := by kernel_rfl
  exact results_cell_row Tryz.results62 tmps W N 84 cs (0, 0) _ h2 hrow Tryz.underlying84 rfl (by rw [hsz]; exact c39)
/-- One selection's lists, by the ways that they are made. -/
theorem one_a {w W : World} {L c j md ms : Nat} {a : Option Addr} {l : List Tk} {ok dp : Bool} {cs : Array Value} (S : SeS w L a c l j ok dp cs W) {k : Int} {al nm : ByteArray} {ds : List Di} {sub : Sels} {vd vs : Value} {ws : List Value} {bk : List Nat}
    (d : W.ownsRow md 105 4 vd ds.length (diVs ds)) (hd : ∀ g, vd.ownBlock = some g → g < ms) (R : RowK ms W vs sub ws bk) (h1 : w.heap.size + 4 ≤ md) (h2 : md ≤ ms) (h3 : ms ≤ W.heap.size) : OneB (w.heap.size + 1) W ⟨k, al, nm, [], ds⟩ sub (.slice (some ⟨w.heap.size + 1, 0, none⟩) 0 0) vd vs := by
  have hz := S.hz
  refine ⟨ws, bk, OneK.gen (la := w.heap.size + 1) (ha := w.heap.size + 1 + 1) (ld := md) (hd := ms) (ls := ms) (hs := W.heap.size) (owns_base S.args fun _ _ => Nat.zero_le _) (owns_base d fun _ _ => Nat.zero_le _) (owns_base R.own fun _ _ => Nat.zero_le _) R.k R.nd (fun g hg => ?_) (fun g hg => ⟨(World.ownsRow.lt d g (blk_mem hg)).1, hd g (blk_mem hg)⟩) (fun g hg => R.all g hg) (by omega) (by omega) (by omega) (by omega) (by omega) (by omega) (by omega) (by omega) (by omega)⟩
  have := blk_mem hg
  simp only [Value.ownBlock, Option.some.injEq] at this
  omega
theorem one_b {w W : World} {L c j md : Nat} {a : Option Addr} {l : List Tk} {ok dp : Bool} {cs : Array Value} (S : SeS w L a c l j ok dp cs W) {k : Int} {al nm : ByteArray} {ds : List Di} {vd : Value}
    (d : W.ownsRow md 105 4 vd ds.length (diVs ds)) (h1 : w.heap.size + 4 ≤ md) : OneB (w.heap.size + 1) W ⟨k, al, nm, [], ds⟩ .nil (.slice (some ⟨w.heap.size + 1, 0, none⟩) 0 0) vd (.slice (some ⟨w.heap.size + 1 + 1, 0, none⟩) 0 0) := by
  have hz := S.hz
  have R := S.sels
  have hd := World.ownsRow.lt d
  by_cases hmd : md ≤ W.heap.size
  · refine ⟨[], [], OneK.gen (la := w.heap.size + 1) (ha := w.heap.size + 1 + 1) (ld := md) (hd := W.heap.size) (ls := w.heap.size + 1 + 1) (hs := w.heap.size + 1 + 1 + 1) (owns_base S.args fun _ _ => Nat.zero_le _) (owns_base d fun _ _ => Nat.zero_le _) (owns_base R.own fun _ _ => Nat.zero_le _) R.k R.nd (fun g hg => ?_) (fun g hg => hd g (blk_mem hg)) (fun g hg => ?_) (by omega) (by omega) (by omega) (by omega) (by omega) (by omega) (by omega) (by omega) (by omega)⟩
    · have := blk_mem hg
      simp only [Value.ownBlock, Option.some.injEq] at this
      omega
    · rw [List.append_nil] at hg
      have := blk_mem hg
      simp only [Value.ownBlock, Option.some.injEq] at this
      omega
  · refine ⟨[], [], OneK.gen (la := w.heap.size + 1) (ha := w.heap.size + 1 + 1) (ld := w.heap.size + 1 + 1 + 1) (hd := W.heap.size) (ls := w.heap.size + 1 + 1) (hs := w.heap.size + 1 + 1 + 1) (owns_base S.args fun _ _ => Nat.zero_le _) (owns_base d fun _ _ => Nat.zero_le _) (owns_base R.own fun _ _ => Nat.zero_le _) R.k R.nd (fun g hg => ?_) (fun g hg => by have := hd g (blk_mem hg); omega) (fun g hg => ?_) (by omega) (by omega) (by omega) (by omega) (by omega) (by omega) (by omega) (by omega) (by omega)⟩
    · have := blk_mem hg
      simp only [Value.ownBlock, Option.some.injEq] at this
      omega
    · rw [List.append_nil] at hg
      have := blk_mem hg
      simp only [Value.ownBlock, Option.some.injEq] at this
      omega
theorem one_c {w W : World} {L c j ma md : Nat} {a : Option Addr} {l : List Tk} {ok dp : Bool} {cs : Array Value} (S : SeS w L a c l j ok dp cs W) {k : Int} {al nm : ByteArray} {ags : List Ar} {ds : List Di} {va vd : Value}
    (o : W.ownsRow ma 103 4 va ags.length (arVs ags)) (ho : ∀ g, va.ownBlock = some g → g < md) (d : W.ownsRow md 105 4 vd ds.length (diVs ds)) (h1 : w.heap.size + 4 ≤ ma) (h2 : ma ≤ md) (h3 : md ≤ W.heap.size) : OneB (w.heap.size + 1) W ⟨k, al, nm, ags, ds⟩ .nil va vd (.slice (some ⟨w.heap.size + 1 + 1, 0, none⟩) 0 0) := by
  have hz := S.hz
  have R := S.sels
  have hd := World.ownsRow.lt d
  have oa := World.ownsRow.lt o
  refine ⟨[], [], OneK.gen (la := ma) (ha := md) (ld := md) (hd := W.heap.size) (ls := w.heap.size + 1 + 1) (hs := w.heap.size + 1 + 1 + 1) (owns_base o fun _ _ => Nat.zero_le _) (owns_base d fun _ _ => Nat.zero_le _) (owns_base R.own fun _ _ => Nat.zero_le _) R.k R.nd (fun g hg => ⟨(oa g (blk_mem hg)).1, ho g (blk_mem hg)⟩) (fun g hg => hd g (blk_mem hg)) (fun g hg => ?_) (by omega) (by omega) (by omega) (by omega) (by omega) (by omega) (by omega) (by omega) (by omega)⟩
  rw [List.append_nil] at hg
  have := blk_mem hg
  simp only [Value.ownBlock, Option.some.injEq] at this
  omega
theorem one_d {w W : World} {ma md ms : Nat} {k : Int} {al nm : ByteArray} {ags : List Ar} {ds : List Di} {sub : Sels} {va vd vs : Value} {ws : List Value} {bk : List Nat}
    (o : W.ownsRow ma 103 4 va ags.length (arVs ags)) (ho : ∀ g, va.ownBlock = some g → g < md) (d : W.ownsRow md 105 4 vd ds.length (diVs ds)) (hd : ∀ g, vd.ownBlock = some g → g < ms) (R : RowK ms W vs sub ws bk) (h1 : w.heap.size + 4 ≤ ma) (h2 : ma ≤ md) (h3 : md ≤ ms) : OneB (w.heap.size + 1) W ⟨k, al, nm, ags, ds⟩ sub va vd vs :=
  ⟨ws, bk, (OneK.make (h := ⟨k, al, nm, ags, ds⟩) o ho d hd R h2 h3).low (by omega)⟩
end Go.Proofs.YtlilfbcngncllaaGreatDoor
