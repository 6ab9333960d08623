/- The specification's reader of tokens: its place, and what its methods do. -/
import Derived.Test.YtlilfbcngncllaaGreatDoorRdImpl
namespace Go.Proofs.YtlilfbcngncllaaGreatDoor
open Go.ChangeShapes Go.WideShapes Go.ChangeAt Go.RowKit
set_option linter.unusedVariables false

/-- A reader's block: its tokens, its place, whether all was well, whether it was too deep; its tokens lie ahead of it. -/
structure RsSt (w : World) (L : Nat) (a : Option Addr) (c : Nat) (l : List Tk) (i : Nat) (ok dp : Bool) : Prop where
  cell : w.heap[L]? = some (.cells #[.slice a l.length c, .int .i64 i, .bool ok, .bool dp] 44 (0, 0))
  row : TkRow 0 L w a l
theorem RsSt.lt {w : World} {L c i : Nat} {a : Option Addr} {l : List Tk} {ok dp : Bool} (h : RsSt w L a c l i ok dp) : L < w.heap.size := (Array.getElem?_eq_some_iff.1 h.cell).1
theorem TkRow.same {w w' : World} {L : Nat} {a : Option Addr} {l : List Tk} (h : TkRow 0 L w a l) (hk : ∀ g, g < L → w'.heap[g]? = w.heap[g]?) : TkRow 0 L w' a l := by
  rcases h with h0 | ⟨b, o, rfl, h1, h2, h3⟩
  · exact .inl h0
  · exact .inr ⟨b, o, rfl, h1, h2, fun j x hx => by
      have e : G.rdOf w' b = G.rdOf w b := by funext j; exact World.cell?_of_block (hk b h2)
      rw [e]; exact h3 j x hx⟩
theorem RsSt.keep {w w' : World} {L c i : Nat} {a : Option Addr} {l : List Tk} {ok dp : Bool} (h : RsSt w L a c l i ok dp) (hk : ∀ g, g ≤ L → w'.heap[g]? = w.heap[g]?) : RsSt w' L a c l i ok dp :=
  ⟨(hk L (Nat.le_refl _)).trans h.cell, h.row.same fun g hg => hk g (by omega)⟩
theorem RsSt.below {w w' : World} {L c i : Nat} {a : Option Addr} {l : List Tk} {ok dp : Bool} (h : RsSt w L a c l i ok dp) (hb : Below w.heap.size w w') : RsSt w' L a c l i ok dp := h.keep fun g hg => hb.block g (by have := h.lt; omega)
theorem RsSt.drewN {w : World} {L c i : Nat} {a : Option Addr} {l : List Tk} {ok dp : Bool} (h : RsSt w L a c l i ok dp) (n : Nat) : RsSt (w.drewN n) L a c l i ok dp := h.keep fun _ _ => rfl
theorem RsSt.at_ {w : World} {L c i : Nat} {a : Option Addr} {l : List Tk} {ok dp : Bool} (h : RsSt w L a c l i ok dp) (j : Nat) : RsSt (w.setCell ⟨L, 1, none⟩ (.int .i64 j)) L a c l j ok dp :=
  ⟨row_set h.cell 1 (.int .i64 j), h.row.same fun g hg => heap_setCell_other _ _ _ _ (by show g ≠ L; omega)⟩
theorem RsSt.ok_ {w : World} {L c i : Nat} {a : Option Addr} {l : List Tk} {ok dp : Bool} (h : RsSt w L a c l i ok dp) (b : Bool) : RsSt (w.setCell ⟨L, 2, none⟩ (.bool b)) L a c l i b dp :=
  ⟨row_set h.cell 2 (.bool b), h.row.same fun g hg => heap_setCell_other _ _ _ _ (by show g ≠ L; omega)⟩
def isB (k : Int) (t : ByteArray) (l : List Tk) (i : Nat) : Bool := decide (i < l.length) && ((nxT l i).k == k) && ((nxT l i).t.toList == t.toList)
set_option maxHeartbeats 2000000 in
theorem rs_is (k : Int) (t : ByteArray) (L c i : Nat) (a : Option Addr) (l : List Tk) (ok dp : Bool) (w : World) (h : RsSt w L a c l i ok dp) :
    Calls Tryz.prog 33 #[.pointer (some ⟨L, 0, none⟩), .int .i64 k, .string t] w fun e w' => e = .returned (.bool (isB k t l i)) ∧ ∃ n, w' = w.drewN n := by
  have c0 : w.cell? ⟨L, 0, none⟩ = some (.slice a l.length c) := row_cell h.cell 0
  have c1 : w.cell? ⟨L, 1, none⟩ = some (.int .i64 i) := row_cell h.cell 1
  obtain ⟨r, HR⟩ : ∃ r, Hid (r = isB k t l i) := ⟨_, rfl⟩
  rw [← HR.out]
  by_cases hlt : i < l.length
  case neg =>
    have hlt' : ¬ (i : Int) < l.length := by omega
    have hltb : decide (i < l.length) = false := decide_eq_false hlt
    have HF : Hid (r = false) := by rw [Hid, HR.out]; unfold isB; rw [decide_eq_false hlt]; rfl
    clear h HR hlt
    go_enter Tryz.func33, Tryz.ntmps33
    go_wp2_with fail
    go_quiet (fail)
    go_wp2_with fail
    go_ret
    exact ⟨by rw [HF.out]; rfl, _, rfl⟩
  have hlt' : (i : Int) < l.length := by omega
  have hltb : decide (i < l.length) = true := decide_eq_true hlt
  obtain ⟨b, o, ha, _, hbL, d0, d1, d2⟩ := h.row.at_ i hlt
  subst ha
  replace d0 : w.cell? ⟨b, o + i * 3, none⟩ = some (.int .i64 l[i].k) := d0
  replace d2 : w.cell? ⟨b, o + i * 3 + 2, none⟩ = some (.string l[i].t) := d2
  have HN : Hid (r = ((l[i].k == k) && (l[i].t.toList == t.toList))) := by
    have : nxT l i = l[i] := by unfold nxT; rw [List.getElem?_eq_getElem hlt]
    rw [Hid, HR.out]; unfold isB; rw [decide_eq_true hlt, this]; rfl
  obtain ⟨x, hx⟩ : ∃ z, z = l[i] := ⟨_, rfl⟩
  rw [← hx] at d0 d2 HN
  clear d1
  clear h HR hx hlt
  cases hk : (x.k == k) with
  | false =>
    have HF : Hid (r = false) := by rw [Hid, HN.out, hk]; rfl
    clear HN
    go_enter Tryz.func33, Tryz.ntmps33
    go_wp2_with fail
    go_quiet (fail)
    go_wp2_with fail
    go_ret
    exact ⟨by rw [HF.out]; rfl, _, rfl⟩
  | true =>
    have HF : Hid (r = (x.t.toList == t.toList)) := by rw [Hid, HN.out, hk]; rfl
    clear HN
    go_enter Tryz.func33, Tryz.ntmps33
    go_wp2_with fail
    go_quiet (fail)
    go_wp2_with fail
    go_ret
    exact ⟨by rw [HF.out]; rfl, _, rfl⟩
set_option maxHeartbeats 2000000 in
theorem rs_take (t : ByteArray) (L c i : Nat) (a : Option Addr) (l : List Tk) (ok dp : Bool) (w : World) (h : RsSt w L a c l i ok dp) (hi : i ≤ 9000000) :
    Calls Tryz.prog 61 #[.pointer (some ⟨L, 0, none⟩), .string t] w fun e w' => e = .returned (.bool (isB 4 t l i)) ∧ RsSt w' L a c l (adv (isB 4 t l i) i) ok dp ∧ w.grownBy w' (some L) := by
  have HQ : Hid _ := rs_is 4 t L c i a l ok dp w h
  have HS : Hid _ := h
  obtain ⟨r, HR⟩ : ∃ r, Hid (r = isB 4 t l i) := ⟨_, rfl⟩
  rw [← HR.out] at HQ
  rw [← HR.out]
  clear h HR
  go_enter Tryz.func61, Tryz.ntmps61
  go_wp2_with fail
  refine Calls.mono HQ.out ?_
  rintro e w1 ⟨rfl, n1, rfl⟩
  have HS1 : Hid (RsSt (w.drewN n1) L a c l i ok dp) := HS.out.drewN n1
  have G1 : Hid (w.grownBy (w.drewN n1) (some L)) := grown_drewN w n1 _
  generalize w.drewN n1 = W at *
  clear HQ HS
  cases r with
  | false =>
    go_wp2_with fail
    go_ret
    exact ⟨rfl, HS1.out, G1.out⟩
  | true =>
    have xL := fun o => row_cell HS1.out.cell o
    have fL := fun o => row_frozen HS1.out.cell o
    go_wp2_with fail
    go_ret
    rw [show (i : Int) + 1 = ((i + 1 : Nat) : Int) by omega]
    exact ⟨rfl, HS1.out.at_ (i + 1), grown_set G1.out _ _⟩
set_option maxHeartbeats 2000000 in
theorem rs_need (t : ByteArray) (L c i : Nat) (a : Option Addr) (l : List Tk) (ok dp : Bool) (w : World) (h : RsSt w L a c l i ok dp) (hi : i ≤ 9000000) :
    Calls Tryz.prog 60 #[.pointer (some ⟨L, 0, none⟩), .string t] w fun e w' => e = .returned (.tuple #[]) ∧ RsSt w' L a c l (adv (isB 4 t l i) i) (isB 4 t l i && ok) dp ∧ w.grownBy w' (some L) := by
  have HQ : Hid _ := rs_take t L c i a l ok dp w h hi
  obtain ⟨r, HR⟩ : ∃ r, Hid (r = isB 4 t l i) := ⟨_, rfl⟩
  rw [← HR.out] at HQ
  rw [← HR.out]
  clear h HR
  go_enter Tryz.func60, Tryz.ntmps60
  go_wp2_with fail
  refine Calls.mono HQ.out ?_
  rintro e w1 ⟨rfl, s1, g1⟩
  have HS1 : Hid _ := s1
  have G1 : Hid _ := g1
  have xL := fun o => row_cell s1.cell o
  have fL := fun o => row_frozen s1.cell o
  clear s1 g1 HQ
  cases r with
  | false =>
    go_wp2_with fail
    refine bodyPost_end (v := .tuple #[]) (by simp [results, Tryz.results60, go_sem]) rfl ⟨rfl, HS1.out.ok_ _, grown_set G1.out _ _⟩
  | true =>
    go_wp2_with fail
    refine bodyPost_end (v := .tuple #[]) (by simp [results, Tryz.results60, go_sem]) rfl ⟨rfl, HS1.out.ok_ _, grown_set G1.out _ _⟩
def nmB (l : List Tk) (i : Nat) : Bool := decide (i < l.length) && ((nxT l i).k == 1)
set_option maxHeartbeats 2000000 in
theorem rs_name (L c i : Nat) (a : Option Addr) (l : List Tk) (ok dp : Bool) (w : World) (h : RsSt w L a c l i ok dp) (hi : i ≤ 9000000) :
    Calls Tryz.prog 34 #[.pointer (some ⟨L, 0, none⟩)] w fun e w' => e = .returned (.string (nmI l i)) ∧ RsSt w' L a c l (adv (nmB l i) i) (nmB l i && ok) dp ∧ w.grownBy w' (some L) := by
  have c0 : w.cell? ⟨L, 0, none⟩ = some (.slice a l.length c) := row_cell h.cell 0
  have c1 : w.cell? ⟨L, 1, none⟩ = some (.int .i64 i) := row_cell h.cell 1
  have c2 : w.cell? ⟨L, 2, none⟩ = some (.bool ok) := row_cell h.cell 2
  have f2 : w.frozen? ⟨L, 2, none⟩ = false := row_frozen h.cell 2
  have HS : Hid _ := h
  obtain ⟨r, HR⟩ : ∃ r, Hid (r = nmB l i) := ⟨_, rfl⟩
  obtain ⟨m, HM⟩ : ∃ m, Hid (m = nmI l i) := ⟨_, rfl⟩
  rw [← HR.out, ← HM.out]
  by_cases hlt : i < l.length
  case neg =>
    have hltb : decide (i < l.length) = false := decide_eq_false hlt
    have HF : Hid (r = false) := by rw [Hid, HR.out]; unfold nmB; rw [hltb]; rfl
    have HMF : Hid (m = ⟨#[]⟩) := by
      rw [Hid, HM.out]; unfold nmI nxT; rw [List.getElem?_eq_none (by omega)]; rfl
    rw [HF.out, HMF.out]
    clear h HR hlt HF HM HMF
    go_enter Tryz.func34, Tryz.ntmps34
    go_wp2_with fail
    go_quiet (fail)
    go_wp2_with fail
    go_ret
    exact ⟨rfl, (HS.out.drewN nq).ok_ false, grown_set (grown_drewN w nq _) _ _⟩
  have hltb : decide (i < l.length) = true := decide_eq_true hlt
  have hlt' : (i : Int) < l.length := by omega
  obtain ⟨b, o, ha, _, hbL, d0, d1, d2⟩ := h.row.at_ i hlt
  subst ha
  replace d0 : w.cell? ⟨b, o + i * 3, none⟩ = some (.int .i64 l[i].k) := d0
  replace d2 : w.cell? ⟨b, o + i * 3 + 2, none⟩ = some (.string l[i].t) := d2
  have hnx : nxT l i = l[i] := by unfold nxT; rw [List.getElem?_eq_getElem hlt]
  have HN : Hid (r = (l[i].k == 1)) := by rw [Hid, HR.out]; unfold nmB; rw [hltb, hnx]; rfl
  have HMN : Hid (m = if l[i].k = 1 then l[i].t else ⟨#[]⟩) := by rw [Hid, HM.out]; unfold nmI; rw [hnx]
  have HDB : Hid (b < L) := hbL
  obtain ⟨x, hx⟩ : ∃ z, z = l[i] := ⟨_, rfl⟩
  rw [← hx] at d0 d2 HN HMN
  clear d1
  clear h HR HM hnx hx hlt
  cases hk : (x.k == 1) with
  | false =>
    have HF : Hid (r = false) := by rw [Hid, HN.out, hk]
    have HMF : Hid (m = ⟨#[]⟩) := by rw [Hid, HMN.out, if_neg (by simpa using hk)]
    rw [HF.out, HMF.out]
    clear HN HMN HF HMF
    go_enter Tryz.func34, Tryz.ntmps34
    go_wp2_with fail
    go_quiet (fail)
    go_wp2_with fail
    go_ret
    exact ⟨rfl, (HS.out.drewN nq).ok_ false, grown_set (grown_drewN w nq _) _ _⟩
  | true =>
    have HF : Hid (r = true) := by rw [Hid, HN.out, hk]
    have HMF : Hid (m = x.t) := by rw [Hid, HMN.out, if_pos (by simpa using hk)]
    rw [HF.out, HMF.out]
    clear HN HMN HF HMF
    go_enter Tryz.func34, Tryz.ntmps34
    go_wp2_with fail
    go_quiet (fail)
    have HS1 : Hid (RsSt (w.drewN nq) L (some ⟨b, o, none⟩) c l i ok dp) := HS.out.drewN nq
    have e2 : (w.drewN nq).cell? ⟨b, o + i * 3 + 2, none⟩ = some (.string x.t) := d2
    have G1 : Hid (w.grownBy (w.drewN nq) (some L)) := grown_drewN w nq _
    generalize w.drewN nq = W at *
    have xL := fun o => row_cell HS1.out.cell o
    have fL := fun o => row_frozen HS1.out.cell o
    obtain ⟨X, hX⟩ : ∃ X : World, X = W.setCell ⟨L, 1, none⟩ (.int .i64 ((i : Int) + 1)) := ⟨_, rfl⟩
    have S2 : Hid (RsSt X L (some ⟨b, o, none⟩) c l (i + 1) ok dp) := by
      have := HS1.out.at_ (i + 1)
      rw [Hid, hX]; exact this
    have G2 : Hid (w.grownBy X (some L)) := by rw [Hid, hX]; exact grown_set G1.out _ _
    have e3 : X.cell? ⟨b, o + i * 3 + 2, none⟩ = some (.string x.t) := by
      rw [hX]
      exact (World.cell?_of_block (a := ⟨b, o + i * 3 + 2, none⟩) (heap_setCell_other _ _ _ _ (by show b ≠ L; have := HDB.out; omega))).trans e2
    go_upto_region 3 with fail
    rw [← hX]
    clear hX xL fL c0 c1 c2 f2 d0 d2 e2 HS HS1 G1
    have q0 : X.cell? ⟨L, 0, none⟩ = some (.slice (some ⟨b, o, none⟩) l.length c) := row_cell S2.out.cell 0
    have q1 : X.cell? ⟨L, 1, none⟩ = some (.int .i64 ((i : Int) + 1)) := row_cell S2.out.cell 1
    go_quiet (fail)
    go_wp2_with fail
    go_ret
    exact ⟨rfl, S2.out.drewN _, grown_trans G2.out (grown_drewN X _ _)⟩
end Go.Proofs.YtlilfbcngncllaaGreatDoor
