/- The specification's reader of documents: a definition: flags and places, what stands in memory under way. -/
import Derived.Test.YtlilfbcngncllaaGreatDoorPsSel
namespace Go.Proofs.YtlilfbcngncllaaGreatDoor
open Go.ChangeShapes Go.WideShapes Go.ChangeAt Go.RowKit
set_option linter.unusedVariables false

theorem sets_ok : ∀ d, d < 1000 → SetsOk d
  | 0, _ => ps_sels 0 fun d' h => by omega
  | d + 1, hd => ps_sels (d + 1) fun d' h => by
    obtain rfl : d = d' := by omega
    exact ps_sel d (by omega) (sets_ok d (by omega))
/-- A definition's head: the flag, kind, names and the place behind. -/
structure HdO (P : Option (Int × ByteArray × ByteArray × List Tk)) (l : List Tk) (ok : Bool) (k : Int) (nm on : ByteArray) (q : Nat) : Prop where
  le : q ≤ l.length + 1
  yes : ok = true → q ≤ l.length ∧ P = some (k, nm, on, l.drop q)
  no : ok = false → P = none
theorem def_end {l : List Tk} {i q j : Nat} {okH dp ok' dp' : Bool} {k : Int} {nm on : ByteArray} {s : Sels} (A : HdO (pDefHead (l.drop i)) l okH k nm on q) (B : Af (pSet 7 (l.drop q)) l okH dp ok' dp' s j) : Af (pDef (l.drop i)) l true dp ok' dp' ⟨k, nm, on, s⟩ j := by
  have no : okH = false → pDef (l.drop i) = .form := fun h => by unfold pDef; rw [A.no h]
  have yes : okH = true → pDef (l.drop i) = (match pSet 7 (l.drop q) with | .ok s r1 => .ok ⟨k, nm, on, s⟩ r1 | .form => .form | .deep => .deep) := fun h => by unfold pDef; rw [(A.yes h).2]; rfl
  refine ⟨B.le, fun h => ?_, fun h => ?_⟩
  · obtain ⟨h1, h2, h3, h4⟩ := B.yes h
    exact ⟨rfl, h2, h3, by rw [yes h1, h4]⟩
  · rcases B.no h with ⟨e, e2⟩ | ⟨e, e1, e2⟩ | ⟨e, e1, e2⟩
    · exact .inr (.inl ⟨rfl, no e, e2⟩)
    · exact .inr (.inl ⟨rfl, by rw [yes e, e1], e2⟩)
    · exact .inr (.inr ⟨rfl, by rw [yes e, e1], e2⟩)
theorem hd_bare {l : List Tk} (h : TkG l) {i : Nat} (hi : i ≤ l.length) (hb : isB 4 ⟨#[123]⟩ l i = true) : HdO (pDefHead (l.drop i)) l true 1 ⟨#[]⟩ ⟨#[]⟩ i := by
  rw [isB_tk h.ok'] at hb
  refine ⟨by omega, fun _ => ⟨hi, ?_⟩, fun q => (by cases q)⟩
  unfold pDefHead
  rw [show atM [123] (l.drop i) = _ from at_lit h #[123] i, if_pos hb]
theorem hd_word {l : List Tk} (h : TkG l) {i : Nat} (hb : isB 4 ⟨#[123]⟩ l i = false) : pDefHead (l.drop i) = if nmB l i = true then
    (if (nmI l i).toList = [113, 117, 101, 114, 121] ∨ (nmI l i).toList = [109, 117, 116, 97, 116, 105, 111, 110] then
      (if nmB l (i + 1) = true then some (if (nmI l i).toList = [113, 117, 101, 114, 121] then 1 else 2, nmI l (i + 1), ⟨#[]⟩, l.drop (i + 2)) else some (if (nmI l i).toList = [113, 117, 101, 114, 121] then 1 else 2, ⟨#[]⟩, ⟨#[]⟩, l.drop (i + 1)))
    else if (nmI l i).toList = [102, 114, 97, 103, 109, 101, 110, 116] then
      (if nmB l (i + 1) = true ∧ nmB l (i + 2) = true ∧ nmB l (i + 3) = true ∧ (nmI l (i + 1)).toList ≠ [111, 110] ∧ (nmI l (i + 2)).toList = [111, 110] then some (3, nmI l (i + 1), nmI l (i + 3), l.drop (i + 4)) else none)
    else none) else none := by
  have N : ∀ k, nmAt (l.drop k) = if nmB l k = true then some (nmI l k) else none := fun k => by
    rw [nm_at h]
    rcases nmB_nm h.ok' k with ⟨q, q'⟩ | ⟨q, q'⟩
    · rw [if_neg q', if_pos q]
    · rw [if_pos q', if_neg (by rw [q]; decide)]
  rw [isB_tk h.ok'] at hb
  unfold pDefHead
  rw [show atM [123] (l.drop i) = _ from at_lit h #[123] i, if_neg (by rw [hb]; decide)]
  simp only [drop2]
  rw [N i]
  by_cases h0 : nmB l i = true
  · rw [if_pos h0, if_pos h0]
    simp only
    by_cases h1 : (nmI l i).toList = [113, 117, 101, 114, 121] ∨ (nmI l i).toList = [109, 117, 116, 97, 116, 105, 111, 110]
    · rw [if_pos h1, if_pos h1, N (i + 1)]
      by_cases h2 : nmB l (i + 1) = true
      · rw [if_pos h2, if_pos h2]
      · rw [if_neg h2, if_neg h2]
    · rw [if_neg h1, if_neg h1]
      by_cases h2 : (nmI l i).toList = [102, 114, 97, 103, 109, 101, 110, 116]
      · rw [if_pos h2, if_pos h2, N (i + 1), N (i + 2), N (i + 3)]
        cases nmB l (i + 1) <;> cases nmB l (i + 2) <;> cases nmB l (i + 3) <;> simp
      · rw [if_neg h2, if_neg h2]
  · rw [if_neg h0, if_neg h0]
theorem nm_word {l : List Tk} (h : TkG l) {i : Nat} {u : List UInt8} (hu : u ≠ []) (e : (nmI l i).toList = u) : nmB l i = true := by
  rcases nmB_nm h.ok' i with ⟨q, _⟩ | ⟨_, q⟩
  · exact q
  · exact absurd (e.symm.trans q) hu
/-- A query's, a mutation's head. -/
theorem hd_op {l : List Tk} (h : TkG l) {i p1 p2 : Nat} {b1 b2 : Bool} {n1 n2 : ByteArray} {k : Int} (hb : isB 4 ⟨#[123]⟩ l i = false) (h1 : b1 = nmB l i) (hn1 : n1 = nmI l i) (hp1 : p1 = adv b1 i) (hw : (n1.toList = [113, 117, 101, 114, 121] ∧ k = 1) ∨ (n1.toList = [109, 117, 116, 97, 116, 105, 111, 110] ∧ k = 2))
    (h2 : b2 = nmB l p1) (hp2 : p2 = adv b2 p1) (hn2 : n2 = if b2 = true then nmI l p1 else ⟨#[]⟩) (hi : i ≤ l.length) : HdO (pDefHead (l.drop i)) l true k n2 ⟨#[]⟩ p2 := by
  have hN : nmB l i = true := by
    rcases hw with ⟨e, _⟩ | ⟨e, _⟩ <;> exact nm_word h (by simp) (hn1 ▸ e)
  rw [hN] at h1
  subst h1
  rw [adv_t] at hp1
  have lp1 : p1 ≤ l.length := by have := nmB_lt hN; omega
  have lp2 : p2 ≤ l.length := by rw [hp2, h2]; exact adv_nmB lp1 (Nat.le_refl _)
  refine ⟨by omega, fun _ => ⟨lp2, ?_⟩, fun q => (by cases q)⟩
  rw [hd_word h hb, if_pos hN, ← hn1, ← hp1, ← h2]
  have hk : (if n1.toList = [113, 117, 101, 114, 121] then (1 : Int) else 2) = k := by
    rcases hw with ⟨e, e2⟩ | ⟨e, e2⟩
    · rw [if_pos e, e2]
    · rw [if_neg (by rw [e]; decide), e2]
  rw [if_pos (by rcases hw with ⟨e, _⟩ | ⟨e, _⟩; exact .inl e; exact .inr e), hk]
  cases b2 with
  | true => rw [if_pos rfl, hn2, if_pos rfl, hp2, adv_t, hp1]
  | false => rw [if_neg (by decide), hn2, if_neg (by decide), hp2, adv_f, hp1]
theorem hd_none {l : List Tk} (h : TkG l) {i q : Nat} {n1 : ByteArray} {k : Int} {nm on : ByteArray} (hb : isB 4 ⟨#[123]⟩ l i = false) (hn1 : n1 = nmI l i) (w1 : n1.toList ≠ [113, 117, 101, 114, 121]) (w2 : n1.toList ≠ [109, 117, 116, 97, 116, 105, 111, 110]) (w3 : n1.toList ≠ [102, 114, 97, 103, 109, 101, 110, 116]) (hq : q ≤ l.length + 1) : HdO (pDefHead (l.drop i)) l false k nm on q := by
  refine ⟨hq, fun q => (by cases q), fun _ => ?_⟩
  rw [hd_word h hb]
  cases hq1 : nmB l i with
  | false => rw [if_neg (by decide)]
  | true =>
    rw [if_pos rfl, ← hn1, if_neg (show ¬ (n1.toList = [113, 117, 101, 114, 121] ∨ n1.toList = [109, 117, 116, 97, 116, 105, 111, 110]) from fun e => e.elim w1 w2), if_neg w3]
theorem hd_frag {l : List Tk} (h : TkG l) {i p1 p2 p3 : Nat} {b1 b2 b3 c o2 : Bool} {n1 n2 n3 : ByteArray} (hb : isB 4 ⟨#[123]⟩ l i = false) (h1 : b1 = nmB l i) (hn1 : n1 = nmI l i) (hp1 : p1 = adv b1 i) (hw : n1.toList = [102, 114, 97, 103, 109, 101, 110, 116])
    (h2 : b2 = nmB l p1) (hn2 : n2 = nmI l p1) (hp2 : p2 = adv b2 p1) (hc : c = isB 1 ⟨#[111, 110]⟩ l p2) (ho : o2 = ((b2 && !(n2.toList == [111, 110])) && c)) (h3 : b3 = nmB l (p2 + 1)) (hn3 : n3 = nmI l (p2 + 1)) (hp3 : p3 = adv b3 (p2 + 1)) : HdO (pDefHead (l.drop i)) l (b3 && o2) 3 n2 n3 p3 := by
  have hN : nmB l i = true := nm_word h (by simp) (hn1 ▸ hw)
  rw [hN] at h1
  subst h1
  rw [adv_t] at hp1
  have lp1 : p1 ≤ l.length := by have := nmB_lt hN; omega
  have lp2 : p2 ≤ l.length := by rw [hp2, h2]; exact adv_nmB lp1 (Nat.le_refl _)
  have lp3 : p3 ≤ l.length + 1 := by rw [hp3, h3]; exact adv_nmB (by omega) (by omega)
  have hP := hd_word h hb
  rw [if_pos hN, ← hn1, if_neg (by rw [hw]; decide), if_pos hw] at hP
  rw [show i + 2 = p1 + 1 by omega, show i + 3 = p1 + 2 by omega, ← hp1, ← h2, ← hn2] at hP
  have hon : c = true ↔ (nmI l p2).toList = [111, 110] := by
    rcases isB_on h.ok' p2 with ⟨q, q'⟩ | ⟨q, q'⟩
    · rw [hc, q]; exact ⟨fun _ => q', fun _ => rfl⟩
    · rw [hc, q]; exact ⟨fun e => (by cases e), fun e => absurd e q'⟩
  have hne : (!(n2.toList == [111, 110])) = true ↔ n2.toList ≠ [111, 110] := by simp
  cases b2 with
  | false =>
    rw [Bool.false_and, Bool.false_and] at ho
    subst ho
    refine ⟨lp3, fun q => by simp at q, fun _ => ?_⟩
    rw [hP, if_neg (fun q => by simp at q)]
  | true =>
    rw [adv_t] at hp2
    rw [← hp2, show p1 + 2 = p2 + 1 by omega, ← h3, ← hn3] at hP
    refine ⟨lp3, fun q => ?_, fun q => ?_⟩
    · rw [Bool.and_eq_true] at q
      obtain ⟨q3, q2⟩ := q
      rw [ho, Bool.true_and, Bool.and_eq_true] at q2
      obtain ⟨qn, qc⟩ := q2
      have e2 := hon.1 qc
      rw [q3, adv_t] at hp3
      have := nmB_lt (h3.symm.trans q3)
      refine ⟨by omega, ?_⟩
      rw [hP, if_pos ⟨rfl, nm_word h (by simp) e2, q3, hne.1 qn, e2⟩, hp3, hp2, hp1]
    · rw [hP, if_neg]
      rintro ⟨_, _, e3, e4, e5⟩
      rw [e3, ho, hne.2 e4, hon.2 e5] at q
      exact absurd q (by decide)
/-- The reader, the answer's block, the definition's block. -/
structure DfS (w : World) (L : Nat) (a : Option Addr) (c : Nat) (l : List Tk) (j : Nat) (ok dp : Bool) (cs : Array Value) (W : World) : Prop where
  rd : RsSt W L a c l j ok dp
  r : W.heap[w.heap.size]? = some (.cells #[.int .i64 0, .string ⟨#[]⟩, .string ⟨#[]⟩, .slice none 0 0] 47 (0, 0))
  x : W.heap[w.heap.size + 1]? = some (.cells cs 47 (0, 0))
  gr : w.grownBy W (some L)
  hL : L < w.heap.size
  hz : w.heap.size + 2 ≤ W.heap.size
theorem DfS.call {w W W' : World} {L c j j' : Nat} {a : Option Addr} {l : List Tk} {ok dp ok' dp' : Bool} {cs : Array Value} (h : DfS w L a c l j ok dp cs W) (rd : RsSt W' L a c l j' ok' dp') (g : W.grownBy W' (some L)) : DfS w L a c l j' ok' dp' cs W' := by
  have hL := h.hL
  have hz := h.hz
  have hz2 := g.size
  exact ⟨rd, grown_keeps h.r (by omega) g (by omega), grown_keeps h.x (by omega) g (by omega), grown_trans h.gr g, hL, by omega⟩
theorem DfS.put {w W : World} {L c j : Nat} {a : Option Addr} {l : List Tk} {ok dp : Bool} {cs : Array Value} (h : DfS w L a c l j ok dp cs W) (k : Nat) (v : Value) : DfS w L a c l j ok dp (cs.setIfInBounds k v) (W.setCell ⟨w.heap.size + 1, k, none⟩ v) := by
  have hL := h.hL
  have hz := h.hz
  have hz3 : W.heap.size ≤ (W.setCell ⟨w.heap.size + 1, k, none⟩ v).heap.size := ((Below.refl 0 W).setCell (p := ⟨w.heap.size + 1, k, none⟩) (Nat.zero_le _) v).size
  refine ⟨h.rd.keep fun g hg => heap_setCell_other _ _ _ _ (by show g ≠ w.heap.size + 1; omega), ?_, row_set h.x k v, grown_new h.gr (by omega) _, hL, by omega⟩
  rw [heap_setCell_other _ _ _ _ (by show w.heap.size ≠ w.heap.size + 1; omega)]; exact h.r
theorem DfS.at_ {w W : World} {L c j : Nat} {a : Option Addr} {l : List Tk} {ok dp : Bool} {cs : Array Value} (h : DfS w L a c l j ok dp cs W) (i : Nat) : DfS w L a c l i ok dp cs (W.setCell ⟨L, 1, none⟩ (.int .i64 i)) :=
  h.call (h.rd.at_ i) (grown_set (grown_refl _ _) _ _)
theorem DfS.ok_ {w W : World} {L c j : Nat} {a : Option Addr} {l : List Tk} {ok dp : Bool} {cs : Array Value} (h : DfS w L a c l j ok dp cs W) (b : Bool) : DfS w L a c l j b dp cs (W.setCell ⟨L, 2, none⟩ (.bool b)) :=
  h.call (h.rd.ok_ b) (grown_set (grown_refl _ _) _ _)
theorem DfS.drewN {w W : World} {L c j : Nat} {a : Option Addr} {l : List Tk} {ok dp : Bool} {cs : Array Value} (h : DfS w L a c l j ok dp cs W) (n : Nat) : DfS w L a c l j ok dp cs (W.drewN n) :=
  h.call (h.rd.drewN n) (grown_drewN W n _)
/-- The definition is told. -/
theorem DfS.done {w W : World} {L c j ms : Nat} {a : Option Addr} {l : List Tk} {ok dp : Bool} {y0 y1 y2 y3 : Value} {sub : Sels} {ws : List Value} {bk : List Nat} (H : DfS w L a c l j ok dp #[y0, y1, y2, y3] W) (O : RowK ms W y3 sub ws bk) (hm : w.heap.size < ms) :
    RsSt (put4w W w.heap.size y0 y1 y2 y3) L a c l j ok dp ∧ RowB w.heap.size (put4w W w.heap.size y0 y1 y2 y3) y3 sub ∧ w.grownBy (put4w W w.heap.size y0 y1 y2 y3) (some L) ∧
      (put4w W w.heap.size y0 y1 y2 y3).heap[w.heap.size]? = some (.cells #[y0, y1, y2, y3] 47 (0, 0)) := by
  have low := H.hL
  refine ⟨H.rd.keep fun g hg => ?_, ?_, ?_, ?_⟩
  · unfold put4w
    rw [heap_setCell_other _ _ _ _ (by show g ≠ w.heap.size; omega), heap_setCell_other _ _ _ _ (by show g ≠ w.heap.size; omega), heap_setCell_other _ _ _ _ (by show g ≠ w.heap.size; omega), heap_setCell_other _ _ _ _ (by show g ≠ w.heap.size; omega)]
  · exact ⟨ws, bk, (((((O.far (k := 0) (x := y0) hm).far (k := 1) (x := y1) hm).far (k := 2) (x := y2) hm).far (k := 3) (x := y3) hm)).low (by omega)⟩
  · exact grown_new (grown_new (grown_new (grown_new H.gr (Nat.le_refl _) _) (Nat.le_refl _) _) (Nat.le_refl _) _) (Nat.le_refl _) _
  · exact row_set (row_set (row_set (row_set H.r 0 y0) 1 y1) 2 y2) 3 y3
theorem results_defS (tmps : Array Value) (W : World) (N : Nat) (cs : Array Value) (h2 : tmps.getD 2 undef = .pointer (some ⟨N, 0, none⟩)) (hrow : W.heap[N]? = some (.cells cs 47 (0, 0))) (hsz : cs.size = 4) :
    (results Tryz.f19 tmps).run Tryz.prog W = .ok (.agg cs) W := by
  have c39 : (Tryz.prog.info? 47).map (·.size) = some 4 := by kernel_rfl
  exact results_cell_row Tryz.results19 tmps W N 47 cs (0, 0) _ h2 hrow Tryz.underlying47 rfl (by rw [hsz]; exact c39)
def DefS (P : PR De) (L : Nat) (a : Option Addr) (c : Nat) (l : List Tk) (dp : Bool) (w : World) (e : Ending) (w' : World) : Prop :=
  ∃ x j a5 c5 ok' dp', e = .returned (.agg #[.int .i64 x.k, .string x.nm, .string x.on, .slice a5 x.sels.len c5]) ∧ RowB w.heap.size w' (.slice a5 x.sels.len c5) x.sels ∧ RsSt w' L a c l j ok' dp' ∧ Af P l true dp ok' dp' x j ∧ w.grownBy w' (some L)
end Go.Proofs.YtlilfbcngncllaaGreatDoor
