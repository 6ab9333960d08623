/- The specification's reader of documents: directives. -/
import Derived.Test.YtlilfbcngncllaaGreatDoorPdArg
import Derived.Test.YtlilfbcngncllaaGreatDoorPdDefs
import Derived.Deep.CutRange
import Derived.Deep.CutBlock
namespace Go.Proofs.YtlilfbcngncllaaGreatDoor
open Go.ChangeShapes Go.WideShapes Go.ChangeAt Go.RowKit
set_option linter.unusedVariables false

theorem isB_lt {k : Int} {t : ByteArray} {l : List Tk} {i : Nat} (h : isB k t l i = true) : i < l.length := by
  unfold isB at h
  rw [Bool.and_eq_true, Bool.and_eq_true, decide_eq_true_eq] at h
  exact h.1.1
theorem nmB_lt {l : List Tk} {i : Nat} (h : nmB l i = true) : i < l.length := by
  unfold nmB at h
  rw [Bool.and_eq_true, decide_eq_true_eq] at h
  exact h.1
theorem adv_isB {k : Int} {t : ByteArray} {l : List Tk} {i m : Nat} (h : i ≤ m) (hm : l.length ≤ m) : adv (isB k t l i) i ≤ m := by
  cases hb : isB k t l i with
  | false => exact h
  | true => have := isB_lt hb; show i + 1 ≤ m; omega
theorem adv_nmB {l : List Tk} {i m : Nat} (h : i ≤ m) (hm : l.length ≤ m) : adv (nmB l i) i ≤ m := by
  cases hb : nmB l i with
  | false => exact h
  | true => have := nmB_lt hb; show i + 1 ≤ m; omega
theorem adv_lt {l : List Tk} {i m : Nat} (h : i ≤ m) (hm : l.length ≤ m) : adv (decide (i < l.length)) i ≤ m := by
  by_cases hb : i < l.length
  · rw [decide_eq_true hb]; show i + 1 ≤ m; omega
  · rw [decide_eq_false hb]; exact h
theorem adv_t (j : Nat) : adv true j = j + 1 := rfl
theorem adv_f (j : Nat) : adv false j = j := rfl
theorem adv_ge (b : Bool) (j : Nat) : j ≤ adv b j := by cases b with | false => exact Nat.le_refl _ | true => exact Nat.le_succ _
theorem TkG.ok' {l : List Tk} (h : TkG l) : TkOk l := tokB_ok h.ok
theorem rsPos_of {w : World} {L c i : Nat} {a : Option Addr} {l : List Tk} {ok dp : Bool} (h : RsSt w L a c l i ok dp) : rdPos w L = i := by
  have c1 : w.cell? ⟨L, 1, none⟩ = some (.int .i64 i) := row_cell h.cell 1
  unfold rdPos; rw [c1]; simp
/-- How much may be read yet; nothing behind a fault. -/
def rsM (n : Nat) (w : World) (L : Nat) : Nat := match w.cell? ⟨L, 2, none⟩ with
  | some (.bool true) => n - rdPos w L
  | _ => 0
theorem rsM_true {w : World} {L c i n : Nat} {a : Option Addr} {l : List Tk} {dp : Bool} (h : RsSt w L a c l i true dp) : rsM n w L = n - i := by
  have c2 : w.cell? ⟨L, 2, none⟩ = some (.bool true) := row_cell h.cell 2
  unfold rsM; rw [c2, rsPos_of h]
theorem rsM_false {w : World} {L c i n : Nat} {a : Option Addr} {l : List Tk} {dp : Bool} (h : RsSt w L a c l i false dp) : rsM n w L = 0 := by
  have c2 : w.cell? ⟨L, 2, none⟩ = some (.bool false) := row_cell h.cell 2
  unfold rsM; rw [c2]
theorem rsM_any {w : World} {L c i n : Nat} {a : Option Addr} {l : List Tk} {ok dp : Bool} (h : RsSt w L a c l i ok dp) {m : Nat} (hm : m < n) (hlt : ok = true → m < i) : rsM n w L < n - m := by
  cases ok with
  | true => rw [rsM_true h]; have := hlt rfl; omega
  | false => rw [rsM_false h]; omega
theorem own_made {w V : World} {base size : Nat} {e : TypeId} (hV : V = w.alloc (.cells #[] e)) (hb : base ≤ w.heap.size) : V.ownsRow base e size (.slice (some ⟨w.heap.size, 0, none⟩) 0 0) 0 [] := by
  subst hV; exact World.ownsRow_made w #[] 0 hb (Nat.zero_le _) (by simp)
theorem RsSt.grow {w w' : World} {L c i : Nat} {a : Option Addr} {l : List Tk} {ok dp : Bool} (h : RsSt w L a c l i ok dp) {N : Nat} (hN : L < N) (hg : w.grownBy w' (some N)) : RsSt w' L a c l i ok dp :=
  h.keep fun g hgL => hg.block g (by have := h.lt; omega) (by intro e; simp only [Option.some.injEq] at e; omega)
/-- What a method of the specification's reader comes to that reads x: the flag ahead, the flag behind, the place behind. -/
structure AfO {α : Type} (P : Option (α × List Tk)) (l : List Tk) (ok ok' : Bool) (x : α) (j : Nat) : Prop where
  le : j ≤ l.length + 1
  yes : ok' = true → ok = true ∧ j ≤ l.length ∧ P = some (x, l.drop j)
  no : ok' = false → ok = false ∨ P = none
/-- An argument: what the three looks tell. -/
theorem arg_looks {l : List Tk} (h : TkG l) {k p1 p2 : Nat} {b1 b2 b3 : Bool} (hk : k ≤ l.length) (h1 : b1 = nmB l k) (hp1 : p1 = adv b1 k) (h2 : b2 = isB 4 ⟨#[58]⟩ l p1) (hp2 : p2 = adv b2 p1) (h3 : b3 = valB (tokVa (nxT l p2))) :
    AfO (pArg (l.drop k)) l true (b3 && (b2 && b1)) ⟨nmI l k, tokVa (nxT l p2)⟩ (adv (decide (p2 < l.length)) p2) := by
  have e1 : p1 ≤ l.length := by rw [hp1, h1]; exact adv_nmB hk (Nat.le_refl _)
  have e2 : p2 ≤ l.length := by rw [hp2, h2]; exact adv_isB e1 (Nat.le_refl _)
  have e3 := adv_lt e2 (Nat.le_refl l.length)
  have hP := pArg_at h k
  rcases nmB_nm h.ok' k with ⟨q1, q1'⟩ | ⟨q1, q1'⟩
  · rw [q1] at h1
    subst h1
    rw [if_neg q1'] at hP
    simp only [adv_t] at hp1
    subst hp1
    rw [isB_tk h.ok'] at h2
    cases b2 with
    | false =>
      rw [← h2, if_neg (by decide)] at hP
      exact ⟨by omega, fun q => by simp at q, fun _ => .inr hP⟩
    | true =>
      rw [← h2, if_pos rfl] at hP
      simp only [adv_t] at hp2
      subst hp2
      rw [pVal_at h, ← h3] at hP
      cases b3 with
      | false =>
        rw [if_neg (by decide)] at hP
        exact ⟨by omega, fun q => by simp at q, fun _ => .inr hP⟩
      | true =>
        rw [if_pos rfl] at hP
        have hlt := val_lt h3.symm
        rw [decide_eq_true hlt]
        exact ⟨by show k + 1 + 1 + 1 ≤ _; omega, fun _ => ⟨rfl, by show k + 1 + 1 + 1 ≤ _; omega, hP⟩, fun q => by simp at q⟩
  · rw [q1] at h1
    subst h1
    rw [if_pos q1'] at hP
    exact ⟨by omega, fun q => by simp at q, fun _ => .inr hP⟩
/-- A list that is read behind what was read. -/
structure LpO {α : Type} (p : List Tk → Option (List α × List Tk)) (Q : Option (List α × List Tk)) (l : List Tk) (ok0 ok : Bool) (g : List α) (k : Nat) : Prop where
  le : k ≤ l.length + 1
  yes : ok = true → ok0 = true ∧ k ≤ l.length ∧ g.length ≤ k ∧ Q = (p (l.drop k)).map fun y => (g ++ y.1, y.2)
  no : ok = false → ok0 = false ∨ Q = none
theorem LpO.start {α : Type} {p : List Tk → Option (List α × List Tk)} {l : List Tk} {ok : Bool} {k : Nat} (hk : k ≤ l.length + 1) (hok : ok = true → k ≤ l.length) : LpO p (p (l.drop k)) l ok ok [] k :=
  ⟨hk, fun h => ⟨h, hok h, Nat.zero_le _, by cases p (l.drop k) <;> rfl⟩, fun h => .inl h⟩
theorem args_step {Q : Option (List Ar × List Tk)} {l : List Tk} (h : TkG l) {ok0 ok' : Bool} {g : List Ar} {x : Ar} {k j : Nat} (H : LpO pArgs Q l ok0 true g k) (hc : isB 4 ⟨#[41]⟩ l k = false) (A : AfO (pArg (l.drop k)) l true ok' x j) : LpO pArgs Q l ok0 ok' (g ++ [x]) j ∧ (ok' = true → k < j) := by
  obtain ⟨h0, hk, hg, hQ⟩ := H.yes rfl
  rw [isB_tk h.ok'] at hc
  rw [pArgs_go h hc] at hQ
  refine ⟨⟨A.le, fun q => ?_, fun q => ?_⟩, fun q => ?_⟩
  · obtain ⟨_, hj, hp⟩ := A.yes q
    have := drop_lt (r := l) hj (pArg_len hp)
    refine ⟨h0, hj, by simp; omega, ?_⟩
    rw [hQ]; exact pArgs1_step hp g
  · rcases A.no q with e | e
    · cases e
    · right; rw [hQ]; unfold pArgs1; rw [e]; rfl
  · obtain ⟨_, hj, hp⟩ := A.yes q
    exact drop_lt (r := l) hj (pArg_len hp)
theorem args_no {l : List Tk} (h : TkG l) {i j : Nat} {ok0 : Bool} {g : List Ar} (hm : isB 4 ⟨#[40]⟩ l i = true) (hj : j ≤ l.length + 1) (H : ok0 = false ∨ pArgs (l.drop (i + 1)) = none) : AfO (pArgsAny (l.drop i)) l ok0 false g j := by
  refine ⟨hj, fun q => (by cases q), fun _ => ?_⟩
  rcases H with e | e
  · exact .inl e
  · right
    rw [isB_tk h.ok'] at hm
    unfold pArgsAny
    rw [show atM [40] (l.drop i) = _ from at_lit h #[40] i, if_pos hm, drop2, e]
theorem args_end {l : List Tk} (h : TkG l) {i k : Nat} {ok0 : Bool} {g : List Ar} (hm : isB 4 ⟨#[40]⟩ l i = true) (H : LpO pArgs (pArgs (l.drop (i + 1))) l ok0 true g k) (hc : isB 4 ⟨#[41]⟩ l k = true) : AfO (pArgsAny (l.drop i)) l ok0 (decide (0 < g.length)) g (k + 1) := by
  obtain ⟨h0, hk, hg, hQ⟩ := H.yes rfl
  have hlt := isB_lt hc
  rw [isB_tk h.ok'] at hc hm
  rw [pArgs_end h hc] at hQ
  simp only [Option.map_some, List.append_nil] at hQ
  cases g with
  | nil =>
    refine ⟨by omega, fun q => absurd q (by decide), fun q => .inr ?_⟩
    unfold pArgsAny
    rw [show atM [40] (l.drop i) = _ from at_lit h #[40] i, if_pos hm, drop2, hQ]
  | cons a b =>
    refine ⟨by omega, fun q => ⟨h0, hlt, ?_⟩, fun q => absurd q (by simp)⟩
    unfold pArgsAny
    rw [show atM [40] (l.drop i) = _ from at_lit h #[40] i, if_pos hm, drop2, hQ]
theorem args_out {l : List Tk} (h : TkG l) {i : Nat} {ok0 : Bool} (hi : i ≤ l.length + 1) (hok : ok0 = true → i ≤ l.length) (hm : isB 4 ⟨#[40]⟩ l i = false) : AfO (pArgsAny (l.drop i)) l ok0 ok0 [] i := by
  rw [isB_tk h.ok'] at hm
  refine ⟨hi, fun q => ⟨q, hok q, ?_⟩, fun q => .inl q⟩
  rw [pArgsAny_at h, hm, if_neg (by decide)]
end Go.Proofs.YtlilfbcngncllaaGreatDoor
namespace Go.Proofs.YtlilfbcngncllaaGreatDoor
open Go.ChangeShapes Go.WideShapes Go.ChangeAt Go.RowKit
set_option linter.unusedVariables false

/-- Arguments are told, a row of their own. -/
def ArgsS (P : Option (List Ar × List Tk)) (L : Nat) (a : Option Addr) (c : Nat) (l : List Tk) (ok dp : Bool) (w : World) (e : Ending) (w' : World) : Prop :=
  ∃ xs j a' c' ok', e = .returned (.slice a' xs.length c') ∧ w'.ownsRow w.heap.size 103 4 (.slice a' xs.length c') xs.length (arVs xs) ∧ RsSt w' L a c l j ok' dp ∧ AfO P l ok ok' xs j ∧ w.grownBy w' (some L)
set_option maxHeartbeats 4000000 in
theorem ps_args (L c i : Nat) (a : Option Addr) (l : List Tk) (ok dp : Bool) (w : World) (h : RsSt w L a c l i ok dp) (hl : TkG l) (hi : i ≤ l.length + 1) (hok : ok = true → i ≤ l.length) :
    Calls Tryz.prog 84 #[.pointer (some ⟨L, 0, none⟩)] w (ArgsS (pArgsAny (l.drop i)) L a c l ok dp w) := by
  have HG : Hid _ := hl
  have HLN : Hid (l.length ≤ 1048576) := hl.len
  have hln := hl.len
  have hLw := h.lt
  obtain ⟨V, hV⟩ : ∃ V, V = w.alloc (.cells #[] 103) := ⟨_, rfl⟩
  have BV : Below w.heap.size w V := by rw [hV]; exact (Below.refl _ _).alloc (Nat.le_refl _) _
  have OV : Hid (V.ownsRow w.heap.size 103 4 (.slice (some ⟨w.heap.size, 0, none⟩) 0 0) 0 []) := own_made hV (Nat.le_refl _)
  have HQ : Hid _ := rs_take ⟨#[40]⟩ L c i a l ok dp V (h.below BV) (by omega)
  have GV : Hid (w.grownBy V (some L)) := grown_below (grown_refl w _) BV
  obtain ⟨b0, HB0⟩ : ∃ r, Hid (r = isB 4 ⟨#[40]⟩ l i) := ⟨_, rfl⟩
  rw [← HB0.out] at HQ
  have HOK : Hid _ := hok
  have HI : Hid _ := hi
  clear h hl hok hi BV
  go_enter Tryz.func84, Tryz.ntmps84
  go_upto_region 2 with fail
  rw [← hV]
  clear hV
  go_wp2_with fail
  refine Calls.mono HQ.out ?_
  rintro e w1 ⟨rfl, s1, g1⟩
  have S1 : Hid _ := s1
  have G1 : Hid (w.grownBy w1 (some L)) := grown_trans GV.out g1
  have O1 : Hid (w1.ownsRow w.heap.size 103 4 (.slice (some ⟨w.heap.size, 0, none⟩) 0 0) 0 []) := own_grown OV.out g1 hLw
  clear s1 g1 HQ GV OV
  cases b0 with
  | false =>
    go_wp2_with fail
    go_ret
    exact ⟨[], i, _, 0, ok, rfl, O1.out, S1.out, args_out HG.out HI.out HOK.out HB0.out.symm, G1.out⟩
  | true =>
    have hlt : i < l.length := isB_lt HB0.out.symm
    obtain ⟨i1, hi1⟩ : ∃ z, z = i + 1 := ⟨_, rfl⟩
    obtain ⟨Q, HQ0⟩ : ∃ z, Hid (z = pArgs (l.drop i1)) := ⟨_, rfl⟩
    have L0 : Hid (LpO pArgs Q l ok ok [] i1) := by rw [Hid, HQ0.out]; exact LpO.start (by omega) (fun _ => by omega)
    have S1' : Hid (RsSt w1 L a c l i1 ok dp) := by rw [hi1]; exact S1.out
    have HI1 : Hid (i1 = i + 1) := hi1
    clear hlt S1 hi1
    go_wp2_with fail
    go_loopw [3] (fun v w' => ∃ (g : List Ar) (a' : Option Addr) (c' k : Nat) (ok2 : Bool), v = .slice a' g.length c' ∧ k ≤ l.length + 1 ∧ Hid (RsSt w' L a c l k ok2 dp) ∧ Hid (w.grownBy w' (some L)) ∧ Hid (w'.ownsRow w.heap.size 103 4 (.slice a' g.length c') g.length (arVs g)) ∧ Hid (LpO pArgs Q l ok ok2 g k)) (fun _ w' => rsM (l.length + 3) w' L)
    case atStart => exact ⟨[], _, 0, i1, ok, rfl, L0.out.le, S1', G1, O1, L0⟩
    case round =>
      obtain ⟨g, a', c', k, ok2, rfl, hk, HS, HGR, HO, HL⟩ := hrel
      obtain ⟨wo, rfl⟩ : ∃ z, z = wr := ⟨_, rfl⟩
      have xL := fun o => row_cell HS.out.cell o
      cases ok2 with
      | false =>
        have HA : Hid (AfO (pArgsAny (l.drop i)) l ok false g k) := args_no HG.out HB0.out.symm hk (by rw [← HI1.out, ← HQ0.out]; exact HL.out.no rfl)
        have fL := fun o => row_frozen HS.out.cell o
        have S9 : Hid (RsSt (wo.setCell ⟨L, 2, none⟩ (.bool false)) L a c l k false dp) := HS.out.ok_ false
        have G9 : Hid (w.grownBy (wo.setCell ⟨L, 2, none⟩ (.bool false)) (some L)) := grown_set HGR.out _ _
        have O9 : Hid ((wo.setCell ⟨L, 2, none⟩ (.bool false)).ownsRow w.heap.size 103 4 (.slice a' g.length c') g.length (arVs g)) := own_grown HO.out (grown_set (grown_refl _ _) _ _) hLw
        clear HL HGR HO HS L0 S1' G1 O1
        go_wp2_with fail
        go_ret
        exact ⟨g, k, a', c', false, rfl, O9.out, S9.out, HA.out, G9.out⟩
      | true =>
        have HPO : Hid (rsM (l.length + 3) wo L = l.length + 3 - k) := rsM_true HS.out
        have hk2 : k ≤ l.length := (HL.out.yes rfl).2.1
        have hgk : g.length ≤ k := (HL.out.yes rfl).2.2.1
        have HQ : Hid _ := rs_take ⟨#[41]⟩ L c k a l true dp wo HS.out (by omega)
        obtain ⟨r, HR⟩ : ∃ r, Hid (r = isB 4 ⟨#[41]⟩ l k) := ⟨_, rfl⟩
        rw [← HR.out] at HQ
        clear L0 S1' G1 O1
        go_wp2_with fail
        refine Calls.mono HQ.out ?_
        rintro e w2 ⟨rfl, s2, g2⟩
        have S2 : Hid _ := s2
        have G2 : Hid (w.grownBy w2 (some L)) := grown_trans HGR.out g2
        have O2 : Hid (w2.ownsRow w.heap.size 103 4 (.slice a' g.length c') g.length (arVs g)) := own_grown HO.out g2 hLw
        clear s2 g2 HQ HS HGR HO xL
        cases r with
        | true =>
          have HA : Hid (AfO (pArgsAny (l.drop i)) l ok (decide (0 < g.length)) g (k + 1)) := args_end HG.out HB0.out.symm (by rw [← HI1.out, ← HQ0.out]; exact HL.out) HR.out.symm
          have xL := fun o => row_cell S2.out.cell o
          have fL := fun o => row_frozen S2.out.cell o
          clear HL HPO HR
          by_cases h0 : g.length = 0
          · have hd : decide (0 < g.length) = false := decide_eq_false (by omega)
            rw [hd] at HA
            have S9 : Hid (RsSt (w2.setCell ⟨L, 2, none⟩ (.bool false)) L a c l (k + 1) false dp) := S2.out.ok_ false
            have G9 : Hid (w.grownBy (w2.setCell ⟨L, 2, none⟩ (.bool false)) (some L)) := grown_set G2.out _ _
            have O9 : Hid ((w2.setCell ⟨L, 2, none⟩ (.bool false)).ownsRow w.heap.size 103 4 (.slice a' g.length c') g.length (arVs g)) := own_grown O2.out (grown_set (grown_refl _ _) _ _) hLw
            clear S2 G2 O2 h0
            go_wp2_with fail
            go_ret
            exact ⟨g, k + 1, a', c', false, rfl, O9.out, S9.out, HA.out, G9.out⟩
          · have hd : decide (0 < g.length) = true := decide_eq_true (by omega)
            have hd2 : (0 : Int) < g.length := by omega
            rw [hd] at HA
            have S9 : Hid (RsSt (w2.setCell ⟨L, 2, none⟩ (.bool true)) L a c l (k + 1) true dp) := S2.out.ok_ true
            have G9 : Hid (w.grownBy (w2.setCell ⟨L, 2, none⟩ (.bool true)) (some L)) := grown_set G2.out _ _
            have O9 : Hid ((w2.setCell ⟨L, 2, none⟩ (.bool true)).ownsRow w.heap.size 103 4 (.slice a' g.length c') g.length (arVs g)) := own_grown O2.out (grown_set (grown_refl _ _) _ _) hLw
            clear S2 G2 O2 h0
            go_wp2_with fail
            go_ret
            exact ⟨g, k + 1, a', c', true, rfl, O9.out, S9.out, HA.out, G9.out⟩
        | false =>
          have HQ2 : Hid _ := rs_name L c k a l true dp w2 S2.out (by omega)
          obtain ⟨b1, HB1⟩ : ∃ r, Hid (r = nmB l k) := ⟨_, rfl⟩
          obtain ⟨n1, HN1⟩ : ∃ r, Hid (r = nmI l k) := ⟨_, rfl⟩
          obtain ⟨p1, HP1⟩ : ∃ z, Hid (z = adv b1 k) := ⟨_, rfl⟩
          rw [← HB1.out, ← HN1.out, ← HP1.out, Bool.and_true] at HQ2
          have lp1 : p1 ≤ l.length := by rw [HP1.out, HB1.out]; exact adv_nmB hk2 (Nat.le_refl _)
          go_wp2_with fail
          refine Calls.mono HQ2.out ?_
          rintro e w3 ⟨rfl, s3, g3⟩
          have G3 : Hid (w.grownBy w3 (some L)) := grown_trans G2.out g3
          have O3 : Hid (w3.ownsRow w.heap.size 103 4 (.slice a' g.length c') g.length (arVs g)) := own_grown O2.out g3 hLw
          have HQ3 : Hid _ := rs_need ⟨#[58]⟩ L c p1 a l b1 dp w3 s3 (by omega)
          obtain ⟨b2, HB2⟩ : ∃ r, Hid (r = isB 4 ⟨#[58]⟩ l p1) := ⟨_, rfl⟩
          obtain ⟨p2, HP2⟩ : ∃ z, Hid (z = adv b2 p1) := ⟨_, rfl⟩
          rw [← HB2.out, ← HP2.out] at HQ3
          have lp2 : p2 ≤ l.length := by rw [HP2.out, HB2.out]; exact adv_isB lp1 (Nat.le_refl _)
          clear s3 g3 HQ2 S2 G2 O2
          go_wp2_with fail
          refine Calls.mono HQ3.out ?_
          rintro e w4 ⟨rfl, s4, g4⟩
          have G4 : Hid (w.grownBy w4 (some L)) := grown_trans G3.out g4
          have O4 : Hid (w4.ownsRow w.heap.size 103 4 (.slice a' g.length c') g.length (arVs g)) := own_grown O3.out g4 hLw
          have HQ4 : Hid _ := ps_value L c p2 a l (b2 && b1) dp w4 s4 HG.out (by omega)
          obtain ⟨v, HV⟩ : ∃ r, Hid (r = tokVa (nxT l p2)) := ⟨_, rfl⟩
          obtain ⟨b3, HB3⟩ : ∃ r, Hid (r = valB v) := ⟨_, rfl⟩
          obtain ⟨p3, HP3⟩ : ∃ z, Hid (z = adv (decide (p2 < l.length)) p2) := ⟨_, rfl⟩
          have hB3 : b3 = valB (tokVa (nxT l p2)) := by rw [HB3.out, HV.out]
          have hA := arg_looks HG.out hk2 HB1.out HP1.out HB2.out HP2.out hB3
          rw [← HN1.out, ← HV.out, ← HP3.out] at hA
          rw [← HV.out, ← HB3.out, ← HP3.out] at HQ4
          have HST : Hid _ := args_step HG.out HL.out HR.out.symm hA
          obtain ⟨ok3, HO3⟩ : ∃ z, Hid (z = (b3 && (b2 && b1))) := ⟨_, rfl⟩
          rw [← HO3.out] at HQ4 HST
          clear s4 g4 HQ3 G3 O3 hA hB3
          unfold vaV at HQ4
          go_wp2_with fail
          refine Calls.mono HQ4.out ?_
          rintro e w5 ⟨rfl, s5, g5⟩
          obtain ⟨U, hU⟩ : ∃ U, U = w5.alloc (.cells #[.string n1, .int .i64 v.k, .int .i64 v.n, .string v.t] 103) := ⟨_, rfl⟩
          have BU : Below w5.heap.size w5 U := by rw [hU]; exact (Below.refl _ _).alloc (Nat.le_refl _) _
          have cU : U.heap[w5.heap.size]? = some (.cells #[.string n1, .int .i64 v.k, .int .i64 v.n, .string v.t] 103 (0, 0)) := by rw [hU]; exact heap_alloc_new _ _
          have G5 : Hid (w.grownBy U (some L)) := grown_below (grown_trans G4.out g5) BU
          have SU : Hid (RsSt U L a c l p3 ok3 dp) := s5.below BU
          have O5 : U.ownsRow w.heap.size 103 4 (.slice a' g.length c') g.length (arVs g) := by rw [hU]; exact (own_grown O4.out g5 hLw).alloc _
          have z5 := G5.out.size
          obtain ⟨ig, hig, hzg, hsg, hbg⟩ := info_arg
          obtain ⟨g8, cap8, W8, hrun, o8, gr8, hat8, hlt8⟩ := run_append_lies (P := Tryz.prog) U 81 81 w.heap.size 103 ig _ 4 48 Tryz.underlying81 hig hzg hsg hbg rfl (by decide) (.slice a' g.length c') g.length (arVs g) O5 ⟨w5.heap.size, 0, none⟩ 1 1 [.string n1, .int .i64 v.k, .int .i64 v.n, .string v.t] rfl (fun t u ht => by
            rw [add_plain]
            have := row_cell cU (0 + t)
            rw [this, ← ht]
            simp) (fun u hu => by
              simp only [List.mem_cons, List.not_mem_nil, or_false] at hu
              rcases hu with rfl | rfl | rfl | rfl <;> rfl) (by omega) (by unfold maxLen; omega) (by omega) z5 _ rfl
          have O8 : Hid (W8.ownsRow w.heap.size 103 4 (.slice (some ⟨g8, 0, none⟩) (g ++ [(⟨n1, v⟩ : Ar)]).length cap8) (g ++ [(⟨n1, v⟩ : Ar)]).length (arVs (g ++ [(⟨n1, v⟩ : Ar)]))) := by
            rw [Hid, arVs_snoc, List.length_append]; exact o8
          have hoff : ∀ q, (Value.slice a' g.length c').ownBlock = some q → L < q := fun q hq => by have := (World.ownsRow.lt O5 q hq).1; omega
          have S8 : Hid (RsSt W8 L a c l p3 ok3 dp) := SU.out.keep fun t ht => gr8.block t (by have := SU.out.lt; omega) (fun e => by have := hoff t e.symm; omega)
          have G8 : Hid (w.grownBy W8 (some L)) := grown_append G5.out gr8 (fun t ht => (World.ownsRow.lt O5 t ht).1)
          have HP8 : Hid (rsM (l.length + 3) W8 L < l.length + 3 - k) := rsM_any S8.out (by omega) HST.out.2
          have HL8 : Hid (LpO pArgs Q l ok ok3 (g ++ [(⟨n1, v⟩ : Ar)]) p3) := HST.out.1
          have HRUN : Hid _ := hrun
          have HU : Hid (U = _) := hU
          clear hU hrun o8 gr8 hat8 O5 cU BU g5 s5 HQ4 hoff hig hzg hsg hbg G4 O4 SU G5 HL
          go_wp2_with (first | (at_builtin; rw [← HU.out]; refine wpList_append_runR rfl _ _ _ rfl _ _ _ _ rfl rfl HRUN.out ?_) | fail)
          exact ⟨⟨g ++ [⟨n1, v⟩], some ⟨g8, 0, none⟩, cap8, p3, ok3, by simp, HST.out.1.le, S8, G8, O8, HL8⟩, by rw [HPO.out]; exact HP8.out⟩
end Go.Proofs.YtlilfbcngncllaaGreatDoor
namespace Go.Proofs.YtlilfbcngncllaaGreatDoor
open Go.ChangeShapes Go.WideShapes Go.ChangeAt Go.RowKit
set_option linter.unusedVariables false

/-- A directive by its arguments: the one that is named 'if', alone. -/
theorem pDir_any (l : List Tk) : pDir l = match nmAt l with
    | none => none
    | some nm => if nm.toList = [115, 107, 105, 112] ∨ nm.toList = [105, 110, 99, 108, 117, 100, 101] then
        (match pArgsAny (l.drop 1) with
        | some ([x], r) => if x.nm.toList = [105, 102] then some (⟨nm.toList == [115, 107, 105, 112], x.v⟩, r) else none
        | _ => none)
      else none := by
  unfold pDir
  cases nmAt l with
  | none => rfl
  | some nm =>
    simp only
    by_cases hw : nm.toList = [115, 107, 105, 112] ∨ nm.toList = [105, 110, 99, 108, 117, 100, 101]
    · rw [if_pos hw, if_pos hw]
      unfold pArgsAny
      by_cases h0 : atM [40] (l.drop 1) = true
      · rw [if_pos h0, if_pos h0, List.drop_drop]
        generalize l.drop (1 + 1) = m
        rw [pArgs_eq m]
        by_cases hc : atM [41] m = true
        · rw [if_pos hc, pArg_close hc]
        · rw [if_neg hc]
          cases ha : pArg m with
          | none => rfl
          | some x =>
            obtain ⟨a, r⟩ := x
            simp only
            rw [pArgs_eq r]
            by_cases hr : atM [41] r = true
            · rw [if_pos hr]
              simp only [Option.map_some]
              by_cases hn : a.nm.toList = [105, 102]
              · rw [if_pos ⟨hn, hr⟩, if_pos hn]
              · rw [if_neg (fun q => hn q.1), if_neg hn]
            · rw [if_neg hr, if_neg (fun q => hr q.2)]
              cases pArg r with
              | none => rfl
              | some y =>
                obtain ⟨b, r2⟩ := y
                simp only
                cases pArgs r2 with
                | none => rfl
                | some z => rfl
      · rw [if_neg h0, if_neg h0]
    · rw [if_neg hw, if_neg hw]
def siB (s : ByteArray) : Bool := (s.toList == [115, 107, 105, 112]) || (s.toList == [105, 110, 99, 108, 117, 100, 101])
theorem siB_iff (s : ByteArray) : siB s = true ↔ (s.toList = [115, 107, 105, 112] ∨ s.toList = [105, 110, 99, 108, 117, 100, 101]) := by unfold siB; simp
theorem pDir_here {l : List Tk} (h : TkG l) (k : Nat) : pDir (l.drop k) = if (nmB l k && siB (nmI l k)) = true then
        (match pArgsAny (l.drop (k + 1)) with
        | some ([x], r) => if x.nm.toList = [105, 102] then some (⟨(nmI l k).toList == [115, 107, 105, 112], x.v⟩, r) else none
        | _ => none)
      else none := by
  rw [pDir_any, nm_at h, drop2]
  rcases nmB_nm h.ok' k with ⟨q1, q1'⟩ | ⟨q1, q1'⟩
  · rw [if_neg q1', q1, Bool.true_and]
    simp only
    by_cases hw : siB (nmI l k) = true
    · rw [if_pos hw, if_pos ((siB_iff _).1 hw)]
    · rw [if_neg hw, if_neg (fun q => hw ((siB_iff _).2 q))]
  · rw [if_pos q1', q1]
    simp
/-- A directive: what its looks tell. -/
theorem dir_yes {l : List Tk} (h : TkG l) {k p1 j : Nat} {b1 ok1 ok2 : Bool} {x : Ar} (h1 : b1 = nmB l k) (hp1 : p1 = adv b1 k) (hw : ok1 = (b1 && siB (nmI l k))) (A : AfO (pArgsAny (l.drop p1)) l ok1 ok2 [x] j) (hx : x.nm.toList = [105, 102]) :
    AfO (pDir (l.drop k)) l true ok2 ⟨(nmI l k).toList == [115, 107, 105, 112], x.v⟩ j := by
  have hP := pDir_here h k
  rw [← h1, ← hw] at hP
  refine ⟨A.le, fun q => ?_, fun q => .inr ?_⟩
  · obtain ⟨e1, e2, e3⟩ := A.yes q
    have hb : b1 = true := by rw [e1] at hw; cases b1 with | true => rfl | false => cases hw
    rw [hb, adv_t] at hp1
    rw [hp1] at e3
    refine ⟨rfl, e2, ?_⟩
    rw [hP, if_pos e1, e3]
    simp only
    rw [if_pos hx]
  · cases h0 : ok1 with
    | false => rw [hP, h0]; rfl
    | true =>
      rcases A.no q with e | e
      · rw [h0] at e; cases e
      · have hb : b1 = true := by rw [h0] at hw; cases b1 with | true => rfl | false => cases hw
        rw [hb, adv_t] at hp1
        rw [hp1] at e
        rw [hP, if_pos h0, e]
theorem dir_no {l : List Tk} (h : TkG l) {k p1 j : Nat} {b1 ok1 ok2 : Bool} {xs : List Ar} (h1 : b1 = nmB l k) (hp1 : p1 = adv b1 k) (hw : ok1 = (b1 && siB (nmI l k))) (A : AfO (pArgsAny (l.drop p1)) l ok1 ok2 xs j) (hx : ∀ x, xs = [x] → x.nm.toList ≠ [105, 102]) :
    pDir (l.drop k) = none := by
  have hP := pDir_here h k
  rw [← h1, ← hw] at hP
  cases h0 : ok1 with
  | false => rw [hP, h0]; rfl
  | true =>
    have hb : b1 = true := by rw [h0] at hw; cases b1 with | true => rfl | false => cases hw
    rw [hb, adv_t] at hp1
    rw [hP, if_pos h0, ← hp1]
    cases ok2 with
    | false =>
      rcases A.no rfl with e | e
      · rw [h0] at e; cases e
      · rw [e]
    | true =>
      rw [(A.yes rfl).2.2]
      match xs, hx with
      | [], _ => rfl
      | [x], hx => simp only; rw [if_neg (hx x rfl)]
      | _ :: _ :: _, _ => rfl
theorem dirs_step {Q : Option (List Di × List Tk)} {l : List Tk} (h : TkG l) {ok0 ok' : Bool} {g : List Di} {x : Di} {k j : Nat} (H : LpO pDirs Q l ok0 true g k) (hc : isB 4 ⟨#[64]⟩ l k = true) (A : AfO (pDir (l.drop (k + 1))) l true ok' x j) : LpO pDirs Q l ok0 ok' (g ++ [x]) j ∧ (ok' = true → k < j) := by
  obtain ⟨h0, hk, hg, hQ⟩ := H.yes rfl
  rw [isB_tk h.ok'] at hc
  rw [pDirs_go h hc] at hQ
  refine ⟨⟨A.le, fun q => ?_, fun q => ?_⟩, fun q => ?_⟩
  · obtain ⟨_, hj, hp⟩ := A.yes q
    have := drop_lt (r := l) hj (pDir_len hp)
    refine ⟨h0, hj, by simp; omega, ?_⟩
    rw [hQ]; exact pDirs1_step hp g
  · rcases A.no q with e | e
    · cases e
    · right; rw [hQ]; unfold pDirs1; rw [e]; rfl
  · obtain ⟨_, hj, hp⟩ := A.yes q
    have := drop_lt (r := l) hj (pDir_len hp); omega
theorem dirs_no {Q : Option (List Di × List Tk)} {l : List Tk} {j : Nat} {ok0 : Bool} {g : List Di} (hj : j ≤ l.length + 1) (H : ok0 = false ∨ Q = none) : AfO Q l ok0 false g j :=
  ⟨hj, fun q => (by cases q), fun _ => H⟩
theorem dirs_bad {Q : Option (List Di × List Tk)} {l : List Tk} (h : TkG l) {ok0 : Bool} {g : List Di} {k j : Nat} (H : LpO pDirs Q l ok0 true g k) (hc : isB 4 ⟨#[64]⟩ l k = true) (hj : j ≤ l.length + 1) (hp : pDir (l.drop (k + 1)) = none) : AfO Q l ok0 false g j := by
  obtain ⟨h0, hk, hg, hQ⟩ := H.yes rfl
  rw [isB_tk h.ok'] at hc
  rw [pDirs_go h hc] at hQ
  refine dirs_no hj (.inr ?_)
  rw [hQ]; unfold pDirs1; rw [hp]; rfl
theorem dirs_end {Q : Option (List Di × List Tk)} {l : List Tk} (h : TkG l) {k : Nat} {ok0 : Bool} {g : List Di} (H : LpO pDirs Q l ok0 true g k) (hc : isB 4 ⟨#[64]⟩ l k = false) : AfO Q l ok0 true g k := by
  obtain ⟨h0, hk, hg, hQ⟩ := H.yes rfl
  rw [isB_tk h.ok'] at hc
  rw [pDirs_end h hc] at hQ
  simp only [Option.map_some, List.append_nil] at hQ
  exact ⟨by omega, fun _ => ⟨h0, hk, hQ⟩, fun q => (by cases q)⟩
/-- Directives are told, a row of their own. -/
def DirsS (P : Option (List Di × List Tk)) (L : Nat) (a : Option Addr) (c : Nat) (l : List Tk) (ok dp : Bool) (w : World) (e : Ending) (w' : World) : Prop :=
  ∃ xs j a' c' ok', e = .returned (.slice a' xs.length c') ∧ w'.ownsRow w.heap.size 105 4 (.slice a' xs.length c') xs.length (diVs xs) ∧ RsSt w' L a c l j ok' dp ∧ AfO P l ok ok' xs j ∧ w.grownBy w' (some L)
set_option maxHeartbeats 8000000 in
theorem ps_dirs (L c i : Nat) (a : Option Addr) (l : List Tk) (ok dp : Bool) (w : World) (h : RsSt w L a c l i ok dp) (hl : TkG l) (hi : i ≤ l.length + 1) (hok : ok = true → i ≤ l.length) :
    Calls Tryz.prog 83 #[.pointer (some ⟨L, 0, none⟩)] w (DirsS (pDirs (l.drop i)) L a c l ok dp w) := by
  have HG : Hid _ := hl
  have HLN : Hid (l.length ≤ 1048576) := hl.len
  have hln := hl.len
  have hLw := h.lt
  obtain ⟨V, hV⟩ : ∃ V, V = w.alloc (.cells #[] 105) := ⟨_, rfl⟩
  have BV : Below w.heap.size w V := by rw [hV]; exact (Below.refl _ _).alloc (Nat.le_refl _) _
  have OV : Hid (V.ownsRow w.heap.size 105 4 (.slice (some ⟨w.heap.size, 0, none⟩) 0 0) 0 []) := own_made hV (Nat.le_refl _)
  have SV : Hid (RsSt V L a c l i ok dp) := h.below BV
  have GV : Hid (w.grownBy V (some L)) := grown_below (grown_refl w _) BV
  obtain ⟨Q, HQ0⟩ : ∃ z, Hid (z = pDirs (l.drop i)) := ⟨_, rfl⟩
  have L0 : Hid (LpO pDirs Q l ok ok [] i) := by rw [Hid, HQ0.out]; exact LpO.start hi hok
  rw [← HQ0.out]
  clear h hl hok BV
  go_enter Tryz.func83, Tryz.ntmps83
  go_upto_region 2 with fail
  rw [← hV]
  clear hV
  go_loopw [3] (fun v w' => ∃ (g : List Di) (a' : Option Addr) (c' k : Nat) (ok2 : Bool), v = .slice a' g.length c' ∧ k ≤ l.length + 1 ∧ Hid (RsSt w' L a c l k ok2 dp) ∧ Hid (w.grownBy w' (some L)) ∧ Hid (w'.ownsRow w.heap.size 105 4 (.slice a' g.length c') g.length (diVs g)) ∧ Hid (LpO pDirs Q l ok ok2 g k)) (fun _ w' => rsM (l.length + 3) w' L)
  case atStart => exact ⟨[], _, 0, i, ok, rfl, L0.out.le, SV, GV, OV, L0⟩
  case round =>
    obtain ⟨g, a', c', k, ok2, rfl, hk, HS, HGR, HO, HL⟩ := hrel
    obtain ⟨wo, rfl⟩ : ∃ z, z = wr := ⟨_, rfl⟩
    have xL := fun o => row_cell HS.out.cell o
    clear L0 SV GV OV
    cases ok2 with
    | false =>
      have HA : Hid (AfO Q l ok false g k) := dirs_no hk (HL.out.no rfl)
      clear HL
      go_wp2_with fail
      go_ret
      exact ⟨g, k, a', c', false, rfl, HO.out, HS.out, HA.out, HGR.out⟩
    | true =>
      have HPO : Hid (rsM (l.length + 3) wo L = l.length + 3 - k) := rsM_true HS.out
      have hk2 : k ≤ l.length := (HL.out.yes rfl).2.1
      have hgk : g.length ≤ k := (HL.out.yes rfl).2.2.1
      have HQ : Hid _ := rs_take ⟨#[64]⟩ L c k a l true dp wo HS.out (by omega)
      obtain ⟨r, HR⟩ : ∃ r, Hid (r = isB 4 ⟨#[64]⟩ l k) := ⟨_, rfl⟩
      rw [← HR.out] at HQ
      go_wp2_with fail
      refine Calls.mono HQ.out ?_
      rintro e w2 ⟨rfl, s2, g2⟩
      have S2 : Hid _ := s2
      have G2 : Hid (w.grownBy w2 (some L)) := grown_trans HGR.out g2
      have O2 : Hid (w2.ownsRow w.heap.size 105 4 (.slice a' g.length c') g.length (diVs g)) := own_grown HO.out g2 hLw
      clear s2 g2 HQ HS HGR HO xL
      cases r with
      | false =>
        have HA : Hid (AfO Q l ok true g k) := dirs_end HG.out HL.out HR.out.symm
        have S2' : Hid (RsSt w2 L a c l k true dp) := S2.out
        clear HL HR HPO
        go_wp2_with fail
        go_ret
        exact ⟨g, k, a', c', true, rfl, O2.out, S2'.out, HA.out, G2.out⟩
      | true =>
        have hlt : k < l.length := isB_lt HR.out.symm
        obtain ⟨k1, hk1⟩ : ∃ z, z = k + 1 := ⟨_, rfl⟩
        have S2' : Hid (RsSt w2 L a c l k1 true dp) := by rw [hk1]; exact S2.out
        have HK1 : Hid (k1 = k + 1) := hk1
        have lk1 : k1 ≤ l.length := by omega
        have HQ2 : Hid _ := rs_name L c k1 a l true dp w2 S2'.out (by omega)
        obtain ⟨b1, HB1⟩ : ∃ r, Hid (r = nmB l k1) := ⟨_, rfl⟩
        obtain ⟨n1, HN1⟩ : ∃ r, Hid (r = nmI l k1) := ⟨_, rfl⟩
        obtain ⟨p1, HP1⟩ : ∃ z, Hid (z = adv b1 k1) := ⟨_, rfl⟩
        rw [← HB1.out, ← HN1.out, ← HP1.out, Bool.and_true] at HQ2
        have lp1 : p1 ≤ l.length := by rw [HP1.out, HB1.out]; exact adv_nmB lk1 (Nat.le_refl _)
        clear hlt hk1 S2
        go_wp2_with fail
        refine Calls.mono HQ2.out ?_
        rintro e w3 ⟨rfl, s3, g3⟩
        have S3 : Hid _ := s3
        have G3 : Hid (w.grownBy w3 (some L)) := grown_trans G2.out g3
        have O3 : Hid (w3.ownsRow w.heap.size 105 4 (.slice a' g.length c') g.length (diVs g)) := own_grown O2.out g3 hLw
        obtain ⟨ok1, HO1⟩ : ∃ z, Hid (z = (b1 && siB n1)) := ⟨_, rfl⟩
        have xL := fun o => row_cell s3.cell o
        have fL := fun o => row_frozen s3.cell o
        obtain ⟨X, hX⟩ : ∃ X : World, X = w3.setCell ⟨L, 2, none⟩ (.bool ok1) := ⟨_, rfl⟩
        have SX : Hid (RsSt X L a c l p1 ok1 dp) := by rw [Hid, hX]; exact S3.out.ok_ _
        have GX : Hid (w.grownBy X (some L)) := by rw [Hid, hX]; exact grown_set G3.out _ _
        have OX : Hid (X.ownsRow w.heap.size 105 4 (.slice a' g.length c') g.length (diVs g)) := by rw [Hid, hX]; exact own_grown O3.out (grown_set (grown_refl _ _) _ _) hLw
        clear s3 g3 HQ2 S2' G2 O2 S3 G3 O3
        obtain ⟨t1, HT1⟩ : ∃ z, Hid (z = (n1.toList == [115, 107, 105, 112])) := ⟨_, rfl⟩
        have hcase : (b1 = false ∧ t1 = false) ∨ (b1 = true ∧ t1 = true) ∨ (b1 = true ∧ t1 = false ∧ (n1.toList == [105, 110, 99, 108, 117, 100, 101]) = true) ∨ (b1 = true ∧ t1 = false ∧ (n1.toList == [105, 110, 99, 108, 117, 100, 101]) = false) := by
          cases hb : b1 with
          | false =>
            refine .inl ⟨rfl, ?_⟩
            rcases nmB_nm HG.out.ok' k1 with ⟨q1, _⟩ | ⟨_, q1⟩
            · rw [← HB1.out, hb] at q1; cases q1
            · rw [HT1.out, HN1.out, q1]; rfl
          | true =>
            cases ht : t1 with
            | true => exact .inr (.inl ⟨rfl, rfl⟩)
            | false =>
              cases (n1.toList == [105, 110, 99, 108, 117, 100, 101]) with
              | true => exact .inr (.inr (.inl ⟨rfl, rfl, rfl⟩))
              | false => exact .inr (.inr (.inr ⟨rfl, rfl, rfl⟩))
        have HDY : Hid (∀ (ok2 : Bool) (x : Ar) (j : Nat), AfO (pArgsAny (l.drop p1)) l ok1 ok2 [x] j → x.nm.toList = [105, 102] → AfO (pDir (l.drop k1)) l true ok2 ⟨t1, x.v⟩ j) := fun ok2 x j hA hx => by
          have := dir_yes HG.out HB1.out HP1.out (by rw [HO1.out, HN1.out]) hA hx
          rw [← HN1.out, ← HT1.out] at this; exact this
        have HDN : Hid (∀ (ok2 : Bool) (xs : List Ar) (j : Nat), AfO (pArgsAny (l.drop p1)) l ok1 ok2 xs j → (∀ x, xs = [x] → x.nm.toList ≠ [105, 102]) → pDir (l.drop k1) = none) := fun ok2 xs j hA hx => dir_no HG.out HB1.out HP1.out (by rw [HO1.out, HN1.out]) hA hx
        have HT1' : Hid (t1 = (n1.toList == [115, 107, 105, 112])) := HT1.out
        have HQ3 : Hid _ := ps_args L c p1 a l ok1 dp X SX.out HG.out (by omega) (fun _ => lp1)
        unfold siB at HO1
        rw [← HT1.out] at HO1
        clear HB1 HN1 HP1 HT1
        rcases hcase with ⟨hb, ht⟩ | ⟨hb, ht⟩ | ⟨hb, ht, hu⟩ | ⟨hb, ht, hu⟩
        all_goals
          have htx := HT1'.out.symm
          rw [ht] at htx
          have hok1 := HO1.out
          rw [hb, ht] at hok1
          try rw [hu] at hok1
          simp only [Bool.false_and, Bool.true_and, Bool.or_false, Bool.true_or, Bool.false_or] at hok1
          rw [hok1] at hX
          subst hb
          clear HT1' HO1 hok1
          go_upto_region 5 with fail
          rw [← hX]
          clear hX xL fL
          go_wp2_with fail
          refine Calls.mono HQ3.out ?_
          rintro e w5 ⟨xs, j, ax, cx, ok2, rfl, o5, s5, hA, g5⟩
          have S5 : Hid _ := s5
          have G5 : Hid (w.grownBy w5 (some L)) := grown_trans GX.out g5
          have O5 : Hid (w5.ownsRow w.heap.size 105 4 (.slice a' g.length c') g.length (diVs g)) := own_grown OX.out g5 hLw
          have HA : Hid _ := hA
          have R5 : Hid _ := o5
          have hj := hA.le
          clear s5 g5 o5 hA HQ3 SX GX OX
          by_cases hlen : xs.length = 1
          case neg =>
            have hne : ((xs.length : Int) != 1) = true := by simp; omega
            have hx : ∀ x, xs = [x] → x.nm.toList ≠ [105, 102] := fun x hx => by rw [hx] at hlen; exact absurd rfl hlen
            have HE : Hid (AfO Q l ok false g j) := dirs_bad HG.out HL.out HR.out.symm hj (by rw [← HK1.out]; exact HDN.out _ _ _ HA.out (hx))
            have yL := fun o => row_cell S5.out.cell o
            have zL := fun o => row_frozen S5.out.cell o
            have S9 : Hid (RsSt (w5.setCell ⟨L, 2, none⟩ (.bool false)) L a c l j false dp) := S5.out.ok_ false
            have G9 : Hid (w.grownBy (w5.setCell ⟨L, 2, none⟩ (.bool false)) (some L)) := grown_set G5.out _ _
            have O9 : Hid ((w5.setCell ⟨L, 2, none⟩ (.bool false)).ownsRow w.heap.size 105 4 (.slice a' g.length c') g.length (diVs g)) := own_grown O5.out (grown_set (grown_refl _ _) _ _) hLw
            clear hlen hx HL HDN HDY HA R5 S5 G5 O5 HPO
            go_wp2_with fail
            go_ret
            exact ⟨g, j, a', c', false, rfl, O9.out, S9.out, HE.out, G9.out⟩
          case pos =>
            obtain ⟨x, rfl⟩ : ∃ x, xs = [x] := by
              match xs, hlen with
              | [x], _ => exact ⟨x, rfl⟩
            obtain ⟨gx, rfl, hgx, hgz⟩ : ∃ gx, ax = some ⟨gx, 0, none⟩ ∧ (∀ j, j < 4 → w5.cell? ⟨gx, j, none⟩ = (arVs [x])[j]?) ∧ gx < w5.heap.size := by
              rcases R5.out.2 with ⟨_, h0⟩ | ⟨gx, cap, cur, hv, _, hc, _⟩
              · cases h0
              · simp only [Value.slice.injEq] at hv
                obtain ⟨rfl, _, rfl⟩ := hv
                exact ⟨gx, rfl, fun j hj => World.ownsRow.cellAt (xs := arVs [x]) R5.out j hj, (Array.getElem?_eq_some_iff.1 hc).1⟩
            have e0 : w5.cell? ⟨gx, 0, none⟩ = some (.string x.nm) := hgx 0 (by omega)
            have e1 : w5.cell? ⟨gx, 1, none⟩ = some (.int .i64 x.v.k) := hgx 1 (by omega)
            have e2 : w5.cell? ⟨gx, 2, none⟩ = some (.int .i64 x.v.n) := hgx 2 (by omega)
            have e3 : w5.cell? ⟨gx, 3, none⟩ = some (.string x.v.t) := hgx 3 (by omega)
            clear hgx hlen
            by_cases hif : x.nm.toList = [105, 102]
            case neg =>
              have hne : (x.nm.toList == [105, 102]) = false := by simp [hif]
              have hx : ∀ y, [x] = [y] → y.nm.toList ≠ [105, 102] := fun y hy => by
                simp only [List.cons.injEq, and_true] at hy
                rw [← hy]; exact hif
              have HE : Hid (AfO Q l ok false g j) := dirs_bad HG.out HL.out HR.out.symm hj (by rw [← HK1.out]; exact HDN.out _ _ _ HA.out (hx))
              have yL := fun o => row_cell S5.out.cell o
              have zL := fun o => row_frozen S5.out.cell o
              have S9 : Hid (RsSt (w5.setCell ⟨L, 2, none⟩ (.bool false)) L a c l j false dp) := S5.out.ok_ false
              have G9 : Hid (w.grownBy (w5.setCell ⟨L, 2, none⟩ (.bool false)) (some L)) := grown_set G5.out _ _
              have O9 : Hid ((w5.setCell ⟨L, 2, none⟩ (.bool false)).ownsRow w.heap.size 105 4 (.slice a' g.length c') g.length (diVs g)) := own_grown O5.out (grown_set (grown_refl _ _) _ _) hLw
              clear hif hx HL HDN HDY HA R5 S5 G5 O5 HPO
              go_wp2_with fail
              go_ret
              exact ⟨g, j, a', c', false, rfl, O9.out, S9.out, HE.out, G9.out⟩
            case pos =>
              have hne : (x.nm.toList == [105, 102]) = true := by simp [hif]
              have HST : Hid _ := dirs_step HG.out HL.out HR.out.symm (by rw [← HK1.out]; exact HDY.out _ _ _ HA.out hif)
              clear hif HDN HDY HA HR HL
              obtain ⟨U, hU⟩ : ∃ U, U = w5.alloc (.cells #[.bool t1, .int .i64 x.v.k, .int .i64 x.v.n, .string x.v.t] 105) := ⟨_, rfl⟩
              have BU : Below w5.heap.size w5 U := by rw [hU]; exact (Below.refl _ _).alloc (Nat.le_refl _) _
              have cU : U.heap[w5.heap.size]? = some (.cells #[.bool t1, .int .i64 x.v.k, .int .i64 x.v.n, .string x.v.t] 105 (0, 0)) := by rw [hU]; exact heap_alloc_new _ _
              have G6 : Hid (w.grownBy U (some L)) := grown_below G5.out BU
              have SU : Hid (RsSt U L a c l j ok2 dp) := S5.out.below BU
              have O6 : U.ownsRow w.heap.size 105 4 (.slice a' g.length c') g.length (diVs g) := by rw [hU]; exact World.ownsRow.alloc O5.out _
              have z6 := G6.out.size
              obtain ⟨ig, hig, hzg, hsg, hbg⟩ := info_dir
              obtain ⟨g8, cap8, W8, hrun, o8, gr8, hat8, hlt8⟩ := run_append_lies (P := Tryz.prog) U 82 82 w.heap.size 105 ig _ 4 40 Tryz.underlying82 hig hzg hsg hbg rfl (by decide) (.slice a' g.length c') g.length (diVs g) O6 ⟨w5.heap.size, 0, none⟩ 1 1 [.bool t1, .int .i64 x.v.k, .int .i64 x.v.n, .string x.v.t] rfl (fun t u ht => by
                rw [add_plain]
                have := row_cell cU (0 + t)
                rw [this, ← ht]
                simp) (fun u hu => by
                  simp only [List.mem_cons, List.not_mem_nil, or_false] at hu
                  rcases hu with rfl | rfl | rfl | rfl <;> rfl) (by omega) (by unfold maxLen; omega) (by omega) z6 _ rfl
              have O8 : Hid (W8.ownsRow w.heap.size 105 4 (.slice (some ⟨g8, 0, none⟩) (g ++ [(⟨t1, x.v⟩ : Di)]).length cap8) (g ++ [(⟨t1, x.v⟩ : Di)]).length (diVs (g ++ [(⟨t1, x.v⟩ : Di)]))) := by
                rw [Hid, diVs_snoc, List.length_append]; exact o8
              have hoff : ∀ q, (Value.slice a' g.length c').ownBlock = some q → L < q := fun q hq => by have := (World.ownsRow.lt O6 q hq).1; omega
              have S8 : Hid (RsSt W8 L a c l j ok2 dp) := SU.out.keep fun t ht => gr8.block t (by have := SU.out.lt; omega) (fun e => by have := hoff t e.symm; omega)
              have G8 : Hid (w.grownBy W8 (some L)) := grown_append G6.out gr8 (fun t ht => (World.ownsRow.lt O6 t ht).1)
              have HP8 : Hid (rsM (l.length + 3) W8 L < l.length + 3 - k) := rsM_any S8.out (by omega) HST.out.2
              have HL8 : Hid (LpO pDirs Q l ok ok2 (g ++ [(⟨t1, x.v⟩ : Di)]) j) := HST.out.1
              have HRUN : Hid _ := hrun
              have hU2 := hU
              rw [ht] at hU2
              have HU : Hid (U = _) := hU2
              clear hU2
              clear hU hrun o8 gr8 hat8 O6 cU BU hoff S5 G5 O5 R5 SU G6
              go_wp2_with (first | (at_builtin; rw [← HU.out]; refine wpList_append_runR rfl _ _ _ rfl _ _ _ _ rfl rfl HRUN.out ?_) | fail)
              exact ⟨⟨g ++ [⟨t1, x.v⟩], some ⟨g8, 0, none⟩, cap8, j, ok2, by simp, HST.out.1.le, S8, G8, O8, HL8⟩, by rw [HPO.out]; exact HP8.out⟩
end Go.Proofs.YtlilfbcngncllaaGreatDoor
