/- Selections in rows of their own that grow: each list's block, none twice. -/
import Derived.Test.YtlilfbcngncllaaGreatDoorPdArg
namespace Go.Proofs.YtlilfbcngncllaaGreatDoor
open Go.ChangeShapes Go.WideShapes Go.ChangeAt Go.RowKit
set_option linter.unusedVariables false

/-- Behind the word: '(if: V)'. -/
def pIf (l : List Tk) (sk : Bool) (i : Nat) : Option (Di × List Tk) :=
  if tkE (nxT l i) ⟨4, 0, ⟨#[40]⟩⟩ = false then none
  else if (nmI l (i + 1)).toList ≠ [105, 102] then none
  else if tkE (nxT l (i + 1 + 1)) ⟨4, 0, ⟨#[58]⟩⟩ = false then none
  else match pVal (l.drop (i + 1 + 1 + 1)) with
    | none => none
    | some (v, r) => if atM [41] r = true then some (⟨sk, v⟩, r.drop 1) else none
theorem if_core (b t1 t2 : Bool) (nm : ByteArray) (pv : Option (Va × List Tk)) :
    (if t1 = true then
        (match (if nm.toList = [] then none else if t2 = true then pv.map fun x => ((⟨nm, x.1⟩ : Ar), x.2) else none) with
        | none => none
        | some (a, r) => if a.nm.toList = [105, 102] ∧ atM [41] r = true then some ((⟨b, a.v⟩ : Di), r.drop 1) else none)
       else none) =
    (if t1 = false then none else if nm.toList ≠ [105, 102] then none else if t2 = false then none else
      match pv with
      | none => none
      | some (v, r) => if atM [41] r = true then some (⟨b, v⟩, r.drop 1) else none) := by
  generalize hu : nm.toList = u
  cases t1
  · simp
  · cases t2
    · by_cases h3 : u = []
      · simp [h3]
      · simp [h3]
    · cases pv with
      | none =>
        by_cases h3 : u = []
        · simp [h3]
        · simp [h3]
      | some x =>
        obtain ⟨v, r⟩ := x
        by_cases h2 : u = [105, 102]
        · subst h2
          simp only [if_true, if_neg (show ¬ ([105, 102] : List UInt8) = [] by decide), Option.map_some, hu, true_and, ne_eq, not_true_eq_false, if_false, Bool.true_eq_false]
        · by_cases h3 : u = []
          · simp [h3]
          · simp only [if_true, if_neg h3, Option.map_some, hu, h2, false_and, if_false, ne_eq, not_false_eq_true, Bool.true_eq_false]
theorem pDir_at {l : List Tk} (h : TkG l) (i : Nat) : pDir (l.drop i) = if (nmI l i).toList = [115, 107, 105, 112] then pIf l true (i + 1) else if (nmI l i).toList = [105, 110, 99, 108, 117, 100, 101] then pIf l false (i + 1) else none := by
  unfold pDir
  rw [nm_at h, drop2, drop2]
  by_cases e : (nmI l i).toList = []
  · rw [if_pos e]
    simp only
    rw [if_neg (by rw [e]; decide), if_neg (by rw [e]; decide)]
  · rw [if_neg e]
    simp only
    have hm : ∀ k, atM [40] (l.drop k) = tkE (nxT l k) ⟨4, 0, ⟨#[40]⟩⟩ := fun k => by rw [← at_tk h, tl_lit #[40]]
    rw [hm, pArg_at h]
    by_cases e1 : (nmI l i).toList = [115, 107, 105, 112]
    · rw [if_pos e1, if_pos (Or.inl e1), e1]
      exact if_core true _ _ _ _
    · rw [if_neg e1]
      by_cases e2 : (nmI l i).toList = [105, 110, 99, 108, 117, 100, 101]
      · rw [if_pos e2, if_pos (Or.inr e2), e2]
        exact if_core false _ _ _ _
      · rw [if_neg e2, if_neg (fun hh => hh.elim e1 e2)]
theorem results_dir (tmps : Array Value) (W : World) (N : Nat) (cs : Array Value) (h2 : tmps.getD 2 undef = .pointer (some ⟨N, 0, none⟩)) (hrow : W.heap[N]? = some (.cells cs 105 (0, 0))) (hsz : cs.size = 4) :
    (results Tryz.f115 tmps).run Tryz.prog W = .ok (.agg cs) W := by
  have c39 : (Tryz.prog.info? 105).map (·.size) = some 4 := by kernel_rfl
  exact results_cell_row Tryz.results115 tmps W N 105 cs (0, 0) _ h2 hrow Tryz.underlying105 rfl (by rw [hsz]; exact c39)
/-- The two blocks of a directive's reader: its answer, and the directive as it is read. -/
structure DiS (ex : Array Value) (w : World) (L : Nat) (a : Option Addr) (c : Nat) (l : List Tk) (j : Nat) (sk : Bool) (W : World) : Prop where
  st : RdSt 37 ex W L a c l j
  gr : w.grownBy W (some L)
  res : W.heap[w.heap.size]? = some (.cells #[.bool false, .int .i64 0, .int .i64 0, .string ⟨#[]⟩] 105 (0, 0))
  x : W.heap[w.heap.size + 1]? = some (.cells #[.bool sk, .int .i64 0, .int .i64 0, .string ⟨#[]⟩] 105 (0, 0))
  low : L < w.heap.size
theorem DiS.call {ex : Array Value} {w : World} {L c j j' : Nat} {a : Option Addr} {l : List Tk} {sk : Bool} {W W' : World} (h : DiS ex w L a c l j sk W) (hr : RdSt 37 ex W' L a c l j') (hg : W.grownBy W' (some L)) : DiS ex w L a c l j' sk W' :=
  ⟨hr, grown_trans h.gr hg, grown_keeps h.res (Array.getElem?_eq_some_iff.1 h.res).1 hg (by have := h.low; omega), grown_keeps h.x (Array.getElem?_eq_some_iff.1 h.x).1 hg (by have := h.low; omega), h.low⟩
theorem DiS.skip {ex : Array Value} {w : World} {L c j : Nat} {a : Option Addr} {l : List Tk} {sk : Bool} {W : World} (h : DiS ex w L a c l j sk W) : DiS ex w L a c l j true (W.setCell ⟨w.heap.size + 1, 0, none⟩ (.bool true)) :=
  ⟨h.st.keep fun g hg => heap_setCell_other _ _ _ _ (by have := h.low; show g ≠ w.heap.size + 1; omega), grown_new h.gr (by omega) _, (heap_setCell_other _ _ _ _ (by show w.heap.size ≠ w.heap.size + 1; omega)).trans h.res, row_set h.x 0 (.bool true), h.low⟩
/-- The same with its value. -/
structure DiT (ex : Array Value) (w : World) (L : Nat) (a : Option Addr) (c : Nat) (l : List Tk) (j : Nat) (sk : Bool) (v : Va) (W : World) : Prop where
  st : RdSt 37 ex W L a c l j
  gr : w.grownBy W (some L)
  res : W.heap[w.heap.size]? = some (.cells #[.bool false, .int .i64 0, .int .i64 0, .string ⟨#[]⟩] 105 (0, 0))
  x : W.heap[w.heap.size + 1]? = some (.cells #[.bool sk, .int .i64 v.k, .int .i64 v.n, .string v.t] 105 (0, 0))
  low : L < w.heap.size
theorem DiT.call {ex : Array Value} {w : World} {L c j j' : Nat} {a : Option Addr} {l : List Tk} {sk : Bool} {v : Va} {W W' : World} (h : DiT ex w L a c l j sk v W) (hr : RdSt 37 ex W' L a c l j') (hg : W.grownBy W' (some L)) : DiT ex w L a c l j' sk v W' :=
  ⟨hr, grown_trans h.gr hg, grown_keeps h.res (Array.getElem?_eq_some_iff.1 h.res).1 hg (by have := h.low; omega), grown_keeps h.x (Array.getElem?_eq_some_iff.1 h.x).1 hg (by have := h.low; omega), h.low⟩
theorem DiS.val {ex : Array Value} {w : World} {L c j : Nat} {a : Option Addr} {l : List Tk} {sk : Bool} {W : World} (h : DiS ex w L a c l j sk W) (v : Va) : DiT ex w L a c l j sk v (((W.setCell ⟨w.heap.size + 1, 1, none⟩ (.int .i64 v.k)).setCell ⟨w.heap.size + 1, 2, none⟩ (.int .i64 v.n)).setCell ⟨w.heap.size + 1, 3, none⟩ (.string v.t)) := by
  have o : ∀ g, g ≠ w.heap.size + 1 → (((W.setCell ⟨w.heap.size + 1, 1, none⟩ (.int .i64 v.k)).setCell ⟨w.heap.size + 1, 2, none⟩ (.int .i64 v.n)).setCell ⟨w.heap.size + 1, 3, none⟩ (.string v.t)).heap[g]? = W.heap[g]? := fun g hg => by
    rw [heap_setCell_other _ _ _ _ (by exact hg), heap_setCell_other _ _ _ _ (by exact hg), heap_setCell_other _ _ _ _ (by exact hg)]
  refine ⟨h.st.keep fun g hg => o g (by have := h.low; omega), grown_new (grown_new (grown_new h.gr (by omega) _) (by omega) _) (by omega) _, (o _ (by omega)).trans h.res, row_set (row_set (row_set h.x 1 (.int .i64 v.k)) 2 (.int .i64 v.n)) 3 (.string v.t), h.low⟩
set_option maxHeartbeats 4000000 in
theorem pd_dir (ex : Array Value) (L c i : Nat) (a : Option Addr) (l : List Tk) (w : World) (h : RdSt 37 ex w L a c l i) (hl : TkG l) :
    Calls Tryz.prog 115 #[.pointer (some ⟨L, 0, none⟩)] w (ReadP diV1 ex L a c l (pDir (l.drop i)) w) := by
  obtain ⟨P, HP⟩ : ∃ P, Hid (P = pDir (l.drop i)) := ⟨_, rfl⟩
  rw [← HP.out]
  rw [pDir_at hl] at HP
  have HG : Hid _ := hl
  obtain ⟨V0, hV0⟩ : ∃ V, V = w.alloc (.cells #[.bool false, .int .i64 0, .int .i64 0, .string ⟨#[]⟩] 105) := ⟨_, rfl⟩
  have z0 : V0.heap.size = w.heap.size + 1 := by rw [hV0]; simp
  obtain ⟨V, hV⟩ : ∃ V, V = V0.alloc (.cells #[.bool false, .int .i64 0, .int .i64 0, .string ⟨#[]⟩] 105) := ⟨_, rfl⟩
  have B0 : Below w.heap.size w V0 := by rw [hV0]; exact (Below.refl _ _).alloc (Nat.le_refl _) _
  have B1 : Below V0.heap.size V0 V := by rw [hV]; exact (Below.refl _ _).alloc (Nat.le_refl _) _
  have BV : Below w.heap.size w V := B0.trans (B1.mono (by omega))
  have SV : Hid (DiS ex w L a c l i false V) := by
    refine ⟨h.below BV, grown_below (grown_refl w _) BV, ?_, ?_, h.lt⟩
    · rw [B1.block _ (by omega), hV0]; exact heap_alloc_new _ _
    · rw [hV, ← z0]; exact heap_alloc_new _ _
  have HQ : Hid _ := rd_name 37 ex L c i a l V SV.out.st hl.len
  have HV0 : Hid (V0 = _) := hV0
  clear h hl hV0 B0 B1 BV
  go_enter Tryz.func115, Tryz.ntmps115
  go_upto_region 2 with fail
  rw [← HV0.out, ← hV]
  clear hV HV0 z0
  go_wp2_with fail
  refine Calls.mono HQ.out ?_
  rintro e w1 ⟨⟨hn, rfl, s1⟩ | ⟨hn, rfl⟩, g1⟩
  case inr =>
    have HE : Hid (P = none) := by rw [Hid, HP.out, if_neg (by rw [hn]; decide), if_neg (by rw [hn]; decide)]
    have G1 : Hid (w.grownBy w1 (some L)) := grown_trans SV.out.gr g1
    clear g1 HQ hn SV
    go_wp2_with fail
    exact ⟨rfl, .inr ⟨HE.out, rfl⟩, G1.out⟩
  have S1 : Hid (DiS ex w L a c l (i + 1) false w1) := SV.out.call s1 g1
  clear s1 g1 HQ SV hn
  obtain ⟨nm, hnm⟩ : ∃ z, z = nmI l i := ⟨_, rfl⟩
  rw [← hnm] at HP ⊢
  clear hnm
  by_cases e1 : nm.toList = [115, 107, 105, 112]
  · have HP1 : Hid (P = pIf l true (i + 1)) := by rw [Hid, HP.out, if_pos e1]
    have e1' : (nm.toList == [115, 107, 105, 112]) = true := by simp [e1]
    clear HP e1
    obtain ⟨X, hX⟩ : ∃ X : World, X = w1.setCell ⟨w.heap.size + 1, 0, none⟩ (.bool true) := ⟨_, rfl⟩
    have SX : Hid (DiS ex w L a c l (i + 1) true X) := by rw [Hid, hX]; exact S1.out.skip
    have f3 := fun o => row_frozen S1.out.x o
    have y3 := fun o => row_cell S1.out.x o
    go_upto_region 7 with fail
    rw [← hX]
    clear hX f3 y3 S1
    have HQ2 : Hid _ := rd_mustPass 37 ex L c (i + 1) a l ⟨#[40]⟩ X SX.out.st HG.out.len
    go_wp2_with fail
    refine Calls.mono HQ2.out ?_
    rintro e w2 ⟨⟨hm, rfl, s2⟩ | ⟨hm, rfl⟩, g2⟩
    case inr =>
      have HE : Hid (P = none) := by rw [Hid, HP1.out]; unfold pIf; rw [if_pos hm]
      have G2 : Hid (w.grownBy w2 (some L)) := grown_trans SX.out.gr g2
      clear g2 HQ2 hm SX
      go_wp2_with fail
      exact ⟨rfl, .inr ⟨HE.out, rfl⟩, G2.out⟩
    have S2 : Hid (DiS ex w L a c l (i + 1 + 1) true w2) := SX.out.call s2 g2
    have HM2 : Hid (¬ tkE (nxT l (i + 1)) ⟨4, 0, ⟨#[40]⟩⟩ = false) := by rw [Hid, hm]; decide
    clear s2 g2 HQ2 hm SX
    have HQ3 : Hid _ := rd_word 37 ex L c (i + 1 + 1) a l ⟨#[105, 102]⟩ w2 S2.out.st HG.out.len (by rw [tl_lit]; decide)
    go_wp2_with fail
    refine Calls.mono HQ3.out ?_
    rintro e w3 ⟨⟨hm, rfl, s3⟩ | ⟨hm, rfl⟩, g3⟩
    case inr =>
      have HE : Hid (P = none) := by rw [Hid, HP1.out]; unfold pIf; rw [if_neg HM2.out, if_pos (by rw [tl_lit #[105, 102]] at hm; exact hm)]
      have G3 : Hid (w.grownBy w3 (some L)) := grown_trans S2.out.gr g3
      clear g3 HQ3 hm S2
      go_wp2_with fail
      exact ⟨rfl, .inr ⟨HE.out, rfl⟩, G3.out⟩
    have S3 : Hid (DiS ex w L a c l (i + 1 + 1 + 1) true w3) := S2.out.call s3 g3
    have HM3 : Hid (¬ (nmI l (i + 1 + 1)).toList ≠ [105, 102]) := by rw [tl_lit #[105, 102]] at hm; exact fun hh => hh hm
    clear s3 g3 HQ3 hm S2
    have HQ4 : Hid _ := rd_mustPass 37 ex L c (i + 1 + 1 + 1) a l ⟨#[58]⟩ w3 S3.out.st HG.out.len
    go_wp2_with fail
    refine Calls.mono HQ4.out ?_
    rintro e w4 ⟨⟨hm, rfl, s4⟩ | ⟨hm, rfl⟩, g4⟩
    case inr =>
      have HE : Hid (P = none) := by rw [Hid, HP1.out]; unfold pIf; rw [if_neg HM2.out, if_neg HM3.out, if_pos hm]
      have G4 : Hid (w.grownBy w4 (some L)) := grown_trans S3.out.gr g4
      clear g4 HQ4 hm S3
      go_wp2_with fail
      exact ⟨rfl, .inr ⟨HE.out, rfl⟩, G4.out⟩
    have S4 : Hid (DiS ex w L a c l (i + 1 + 1 + 1 + 1) true w4) := S3.out.call s4 g4
    have HP2 : Hid (P = match pVal (l.drop (i + 1 + 1 + 1 + 1)) with
        | none => none
        | some (v, r) => if atM [41] r = true then some (⟨true, v⟩, r.drop 1) else none) := by rw [Hid, HP1.out]; unfold pIf; rw [if_neg HM2.out, if_neg HM3.out, if_neg (by rw [hm]; decide)]
    clear s4 g4 HQ4 hm S3 HM2 HM3 HP1
    have HQ5 : Hid _ := pd_value ex L c (i + 1 + 1 + 1 + 1) a l w4 S4.out.st HG.out
    go_wp2_with fail
    refine Calls.mono HQ5.out ?_
    rintro e w5 ⟨⟨v, j, hv, rfl, s5⟩ | ⟨hv, rfl⟩, g5⟩
    case inr =>
      have HE : Hid (P = none) := by rw [Hid, HP2.out, hv]
      have G5 : Hid (w.grownBy w5 (some L)) := grown_trans S4.out.gr g5
      clear g5 HQ5 hv S4
      go_wp2_with fail
      exact ⟨rfl, .inr ⟨HE.out, rfl⟩, G5.out⟩
    have S5 : Hid (DiS ex w L a c l j true w5) := S4.out.call s5 g5
    have HP3 : Hid (P = if tkE (nxT l j) ⟨4, 0, ⟨#[41]⟩⟩ = true then some (⟨true, v⟩, l.drop (j + 1)) else none) := by
      rw [Hid, HP2.out, hv, ← at_tk HG.out, tl_lit #[41], ← drop2]
    clear s5 g5 HQ5 hv S4 HP2
    unfold vaV
    obtain ⟨Y, hY⟩ : ∃ Y : World, Y = ((w5.setCell ⟨w.heap.size + 1, 1, none⟩ (.int .i64 v.k)).setCell ⟨w.heap.size + 1, 2, none⟩ (.int .i64 v.n)).setCell ⟨w.heap.size + 1, 3, none⟩ (.string v.t) := ⟨_, rfl⟩
    have SY : Hid (DiT ex w L a c l j true v Y) := by rw [Hid, hY]; exact S5.out.val v
    have f3 := fun o => row_frozen S5.out.x o
    have y3 := fun o => row_cell S5.out.x o
    go_upto_region 11 with fail
    rw [← hY]
    clear hY f3 y3 S5
    have HQ6 : Hid _ := rd_mustPass 37 ex L c j a l ⟨#[41]⟩ Y SY.out.st HG.out.len
    go_wp2_with fail
    refine Calls.mono HQ6.out ?_
    rintro e w6 ⟨⟨hm, rfl, s6⟩ | ⟨hm, rfl⟩, g6⟩
    case inr =>
      have HE : Hid (P = none) := by rw [Hid, HP3.out, if_neg (by rw [hm]; decide)]
      have G6 : Hid (w.grownBy w6 (some L)) := grown_trans SY.out.gr g6
      clear g6 HQ6 hm SY
      go_wp2_with fail
      exact ⟨rfl, .inr ⟨HE.out, rfl⟩, G6.out⟩
    have S6 : Hid (DiT ex w L a c l (j + 1) true v w6) := SY.out.call s6 g6
    have HE : Hid (P = some (⟨true, v⟩, l.drop (j + 1))) := by rw [Hid, HP3.out, if_pos hm]
    clear s6 g6 HQ6 hm SY HP3
    have xA := fun o => row_cell S6.out.x o
    have xR := fun o => row_cell S6.out.res o
    have fR := fun o => row_frozen S6.out.res o
    go_wp2_with fail
    refine bodyPost_ret (v := .agg #[.bool true, .int .i64 v.k, .int .i64 v.n, .string v.t]) (results_dir _ _ w.heap.size _ rfl (row_set (row_set (row_set (row_set S6.out.res 0 (.bool true)) 1 (.int .i64 v.k)) 2 (.int .i64 v.n)) 3 (.string v.t)) rfl) rfl ⟨.inl ⟨_, _, HE.out, rfl, ?_⟩, ?_⟩
    · refine S6.out.st.keep fun g hg => ?_
      have := S6.out.low
      rw [heap_setCell_other _ _ _ _ (by show g ≠ w.heap.size; omega), heap_setCell_other _ _ _ _ (by show g ≠ w.heap.size; omega), heap_setCell_other _ _ _ _ (by show g ≠ w.heap.size; omega), heap_setCell_other _ _ _ _ (by show g ≠ w.heap.size; omega)]
    · exact grown_new (grown_new (grown_new (grown_new S6.out.gr (Nat.le_refl _) _) (Nat.le_refl _) _) (Nat.le_refl _) _) (Nat.le_refl _) _
  have e1' : (nm.toList == [115, 107, 105, 112]) = false := by simp [e1]
  by_cases e2 : nm.toList = [105, 110, 99, 108, 117, 100, 101]
  · have HP1 : Hid (P = pIf l false (i + 1)) := by rw [Hid, HP.out, if_neg e1, if_pos e2]
    have e2' : (nm.toList == [105, 110, 99, 108, 117, 100, 101]) = true := by simp [e2]
    clear HP e1 e2
    have SX : Hid _ := S1.out
    obtain ⟨X, rfl⟩ : ∃ X : World, X = w1 := ⟨_, rfl⟩
    clear S1
    go_upto_region 7 with fail
    have HQ2 : Hid _ := rd_mustPass 37 ex L c (i + 1) a l ⟨#[40]⟩ X SX.out.st HG.out.len
    go_wp2_with fail
    refine Calls.mono HQ2.out ?_
    rintro e w2 ⟨⟨hm, rfl, s2⟩ | ⟨hm, rfl⟩, g2⟩
    case inr =>
      have HE : Hid (P = none) := by rw [Hid, HP1.out]; unfold pIf; rw [if_pos hm]
      have G2 : Hid (w.grownBy w2 (some L)) := grown_trans SX.out.gr g2
      clear g2 HQ2 hm SX
      go_wp2_with fail
      exact ⟨rfl, .inr ⟨HE.out, rfl⟩, G2.out⟩
    have S2 : Hid (DiS ex w L a c l (i + 1 + 1) false w2) := SX.out.call s2 g2
    have HM2 : Hid (¬ tkE (nxT l (i + 1)) ⟨4, 0, ⟨#[40]⟩⟩ = false) := by rw [Hid, hm]; decide
    clear s2 g2 HQ2 hm SX
    have HQ3 : Hid _ := rd_word 37 ex L c (i + 1 + 1) a l ⟨#[105, 102]⟩ w2 S2.out.st HG.out.len (by rw [tl_lit]; decide)
    go_wp2_with fail
    refine Calls.mono HQ3.out ?_
    rintro e w3 ⟨⟨hm, rfl, s3⟩ | ⟨hm, rfl⟩, g3⟩
    case inr =>
      have HE : Hid (P = none) := by rw [Hid, HP1.out]; unfold pIf; rw [if_neg HM2.out, if_pos (by rw [tl_lit #[105, 102]] at hm; exact hm)]
      have G3 : Hid (w.grownBy w3 (some L)) := grown_trans S2.out.gr g3
      clear g3 HQ3 hm S2
      go_wp2_with fail
      exact ⟨rfl, .inr ⟨HE.out, rfl⟩, G3.out⟩
    have S3 : Hid (DiS ex w L a c l (i + 1 + 1 + 1) false w3) := S2.out.call s3 g3
    have HM3 : Hid (¬ (nmI l (i + 1 + 1)).toList ≠ [105, 102]) := by rw [tl_lit #[105, 102]] at hm; exact fun hh => hh hm
    clear s3 g3 HQ3 hm S2
    have HQ4 : Hid _ := rd_mustPass 37 ex L c (i + 1 + 1 + 1) a l ⟨#[58]⟩ w3 S3.out.st HG.out.len
    go_wp2_with fail
    refine Calls.mono HQ4.out ?_
    rintro e w4 ⟨⟨hm, rfl, s4⟩ | ⟨hm, rfl⟩, g4⟩
    case inr =>
      have HE : Hid (P = none) := by rw [Hid, HP1.out]; unfold pIf; rw [if_neg HM2.out, if_neg HM3.out, if_pos hm]
      have G4 : Hid (w.grownBy w4 (some L)) := grown_trans S3.out.gr g4
      clear g4 HQ4 hm S3
      go_wp2_with fail
      exact ⟨rfl, .inr ⟨HE.out, rfl⟩, G4.out⟩
    have S4 : Hid (DiS ex w L a c l (i + 1 + 1 + 1 + 1) false w4) := S3.out.call s4 g4
    have HP2 : Hid (P = match pVal (l.drop (i + 1 + 1 + 1 + 1)) with
        | none => none
        | some (v, r) => if atM [41] r = true then some (⟨false, v⟩, r.drop 1) else none) := by rw [Hid, HP1.out]; unfold pIf; rw [if_neg HM2.out, if_neg HM3.out, if_neg (by rw [hm]; decide)]
    clear s4 g4 HQ4 hm S3 HM2 HM3 HP1
    have HQ5 : Hid _ := pd_value ex L c (i + 1 + 1 + 1 + 1) a l w4 S4.out.st HG.out
    go_wp2_with fail
    refine Calls.mono HQ5.out ?_
    rintro e w5 ⟨⟨v, j, hv, rfl, s5⟩ | ⟨hv, rfl⟩, g5⟩
    case inr =>
      have HE : Hid (P = none) := by rw [Hid, HP2.out, hv]
      have G5 : Hid (w.grownBy w5 (some L)) := grown_trans S4.out.gr g5
      clear g5 HQ5 hv S4
      go_wp2_with fail
      exact ⟨rfl, .inr ⟨HE.out, rfl⟩, G5.out⟩
    have S5 : Hid (DiS ex w L a c l j false w5) := S4.out.call s5 g5
    have HP3 : Hid (P = if tkE (nxT l j) ⟨4, 0, ⟨#[41]⟩⟩ = true then some (⟨false, v⟩, l.drop (j + 1)) else none) := by
      rw [Hid, HP2.out, hv, ← at_tk HG.out, tl_lit #[41], ← drop2]
    clear s5 g5 HQ5 hv S4 HP2
    unfold vaV
    obtain ⟨Y, hY⟩ : ∃ Y : World, Y = ((w5.setCell ⟨w.heap.size + 1, 1, none⟩ (.int .i64 v.k)).setCell ⟨w.heap.size + 1, 2, none⟩ (.int .i64 v.n)).setCell ⟨w.heap.size + 1, 3, none⟩ (.string v.t) := ⟨_, rfl⟩
    have SY : Hid (DiT ex w L a c l j false v Y) := by rw [Hid, hY]; exact S5.out.val v
    have f3 := fun o => row_frozen S5.out.x o
    have y3 := fun o => row_cell S5.out.x o
    go_upto_region 11 with fail
    rw [← hY]
    clear hY f3 y3 S5
    have HQ6 : Hid _ := rd_mustPass 37 ex L c j a l ⟨#[41]⟩ Y SY.out.st HG.out.len
    go_wp2_with fail
    refine Calls.mono HQ6.out ?_
    rintro e w6 ⟨⟨hm, rfl, s6⟩ | ⟨hm, rfl⟩, g6⟩
    case inr =>
      have HE : Hid (P = none) := by rw [Hid, HP3.out, if_neg (by rw [hm]; decide)]
      have G6 : Hid (w.grownBy w6 (some L)) := grown_trans SY.out.gr g6
      clear g6 HQ6 hm SY
      go_wp2_with fail
      exact ⟨rfl, .inr ⟨HE.out, rfl⟩, G6.out⟩
    have S6 : Hid (DiT ex w L a c l (j + 1) false v w6) := SY.out.call s6 g6
    have HE : Hid (P = some (⟨false, v⟩, l.drop (j + 1))) := by rw [Hid, HP3.out, if_pos hm]
    clear s6 g6 HQ6 hm SY HP3
    have xA := fun o => row_cell S6.out.x o
    have xR := fun o => row_cell S6.out.res o
    have fR := fun o => row_frozen S6.out.res o
    go_wp2_with fail
    refine bodyPost_ret (v := .agg #[.bool false, .int .i64 v.k, .int .i64 v.n, .string v.t]) (results_dir _ _ w.heap.size _ rfl (row_set (row_set (row_set (row_set S6.out.res 0 (.bool false)) 1 (.int .i64 v.k)) 2 (.int .i64 v.n)) 3 (.string v.t)) rfl) rfl ⟨.inl ⟨_, _, HE.out, rfl, ?_⟩, ?_⟩
    · refine S6.out.st.keep fun g hg => ?_
      have := S6.out.low
      rw [heap_setCell_other _ _ _ _ (by show g ≠ w.heap.size; omega), heap_setCell_other _ _ _ _ (by show g ≠ w.heap.size; omega), heap_setCell_other _ _ _ _ (by show g ≠ w.heap.size; omega), heap_setCell_other _ _ _ _ (by show g ≠ w.heap.size; omega)]
    · exact grown_new (grown_new (grown_new (grown_new S6.out.gr (Nat.le_refl _) _) (Nat.le_refl _) _) (Nat.le_refl _) _) (Nat.le_refl _) _
  have e2' : (nm.toList == [105, 110, 99, 108, 117, 100, 101]) = false := by simp [e2]
  have HE : Hid (P = none) := by rw [Hid, HP.out, if_neg e1, if_neg e2]
  have G1 : Hid _ := S1.out.gr
  clear HP e1 e2 S1
  go_wp2_with fail
  exact ⟨rfl, .inr ⟨HE.out, rfl⟩, G1.out⟩
end Go.Proofs.YtlilfbcngncllaaGreatDoor
namespace Go.Proofs.YtlilfbcngncllaaGreatDoor
open Go.ChangeShapes Go.WideShapes Go.ChangeAt Go.RowKit
set_option linter.unusedVariables false

/-- Behind a mark '@'. -/
def pDirs1 (l : List Tk) : Option (List Di × List Tk) :=
  match pDir l with
  | none => none
  | some (a, r) => (pDirs r).map fun x => (a :: x.1, x.2)
def diC (x : Di) : List Value := [.bool x.sk, .int .i64 x.v.k, .int .i64 x.v.n, .string x.v.t]
def diVs (l : List Di) : List Value := l.flatMap diC
theorem diVs_snoc (l : List Di) (x : Di) : diVs (l ++ [x]) = diVs l ++ [.bool x.sk, .int .i64 x.v.k, .int .i64 x.v.n, .string x.v.t] := by
  unfold diVs; rw [List.flatMap_append]; rfl
theorem info_dir : ∃ i, Tryz.prog.info? 105 = some i ∧ i.zero = some (.agg #[.bool false, .int .i64 0, .int .i64 0, .string ⟨#[]⟩]) ∧ i.size = 4 ∧ i.bytes = 40 := by
  exact info_partsS (by kernel_rfl)
theorem pDirs_end {l : List Tk} (h : TkG l) {k : Nat} (hk : tkE (nxT l k) ⟨4, 0, ⟨#[64]⟩⟩ = false) : pDirs (l.drop k) = some ([], l.drop k) := by
  rw [pDirs_eq, show ([64] : List UInt8) = (⟨#[64]⟩ : ByteArray).toList from (tl_lit _).symm, at_tk h, if_neg (by rw [hk]; simp)]
theorem pDirs_go {l : List Tk} (h : TkG l) {k : Nat} (hk : tkE (nxT l k) ⟨4, 0, ⟨#[64]⟩⟩ = true) : pDirs (l.drop k) = pDirs1 (l.drop (k + 1)) := by
  rw [pDirs_eq, show ([64] : List UInt8) = (⟨#[64]⟩ : ByteArray).toList from (tl_lit _).symm, at_tk h, if_pos hk, drop2]
  rfl
theorem pDirs1_step {l r : List Tk} {y : Di} (h : pDir l = some (y, r)) (g : List Di) : ((pDirs1 l).map fun z => (g ++ z.1, z.2)) = (pDirs r).map fun z => ((g ++ [y]) ++ z.1, z.2) := by
  unfold pDirs1
  rw [h]
  simp only
  cases pDirs r with
  | none => rfl
  | some x => simp
/-- A list of directives is told, a row of its own. -/
def DirsP (ex : Array Value) (L : Nat) (a : Option Addr) (c : Nat) (l : List Tk) (r : Option (List Di × List Tk)) (w : World) (e : Ending) (w' : World) : Prop :=
  ((∃ xs j a' c', r = some (xs, l.drop j) ∧ e = .returned (.slice a' xs.length c') ∧ w'.ownsRow w.heap.size 105 4 (.slice a' xs.length c') xs.length (diVs xs) ∧ RdSt 37 ex w' L a c l j) ∨ (r = none ∧ badF e)) ∧ w.grownBy w' (some L)
set_option maxHeartbeats 4000000 in
theorem pd_dirs (ex : Array Value) (L c i : Nat) (a : Option Addr) (l : List Tk) (w : World) (h : RdSt 37 ex w L a c l i) (hl : TkG l) :
    Calls Tryz.prog 103 #[.pointer (some ⟨L, 0, none⟩)] w (DirsP ex L a c l (pDirs (l.drop i)) w) := by
  have HG : Hid _ := hl
  have HLN : Hid (l.length ≤ 1048576) := hl.len
  obtain ⟨P, HP⟩ : ∃ P, Hid (P = pDirs (l.drop i)) := ⟨_, rfl⟩
  rw [← HP.out]
  have hLw := h.lt
  have hj := h.le
  have SU : Hid _ := h
  have HT : Hid (P = (pDirs (l.drop i)).map fun y => ([] ++ y.1, y.2)) := by rw [Hid, HP.out]; cases pDirs (l.drop i) <;> rfl
  clear h hl HP
  go_enter Tryz.func103, Tryz.ntmps103
  go_wp2_with fail
  go_loopw [3] (fun v w' => ∃ (k : Nat) (g : List Di) (a' : Option Addr) (c' : Nat), v = .slice a' g.length c' ∧ g.length ≤ k ∧ k ≤ l.length ∧ Hid (RdSt 37 ex w' L a c l k) ∧ Hid (w.grownBy w' (some L)) ∧ Hid (w'.ownsRow w.heap.size 105 4 (.slice a' g.length c') g.length (diVs g)) ∧ Hid (P = (pDirs (l.drop k)).map fun y => (g ++ y.1, y.2))) (fun _ w' => l.length - rdPos w' L)
  case atStart => exact ⟨i, [], none, 0, rfl, Nat.zero_le _, hj, SU, grown_refl _ _, ⟨rfl, .inl ⟨rfl, rfl⟩⟩, HT⟩
  case round =>
    obtain ⟨k, g, a', c', rfl, hgk, hk, HS, HGR, HO, HM⟩ := hrel
    obtain ⟨wo, rfl⟩ : ∃ z, z = wr := ⟨_, rfl⟩
    have HQ : Hid _ := rd_passes 37 ex L c k a l ⟨#[64]⟩ wo HS.out HLN.out
    have HPO : Hid (rdPos wo L = k) := rdPos_of HS.out
    obtain ⟨r, HR⟩ : ∃ r, Hid (r = tkE (nxT l k) ⟨4, 0, ⟨#[64]⟩⟩) := ⟨_, rfl⟩
    rw [← HR.out] at HQ
    go_wp2_with fail
    refine Calls.mono HQ.out ?_
    rintro e w2 ⟨rfl, s2, g2⟩
    have HS2 : Hid _ := s2
    have G2 : Hid (w.grownBy w2 (some L)) := grown_trans HGR.out g2
    have O2 : Hid (w2.ownsRow w.heap.size 105 4 (.slice a' g.length c') g.length (diVs g)) := own_grown HO.out g2 hLw
    clear s2 g2 HQ HS HGR HO
    cases r with
    | false =>
      have HE : Hid (P = some (g, l.drop k)) := by rw [Hid, HM.out, pDirs_end HG.out HR.out.symm]; simp
      clear HM HR
      go_wp2_with fail
      go_ret
      exact ⟨.inl ⟨g, k, a', c', HE.out, rfl, O2.out, HS2.out⟩, G2.out⟩
    | true =>
      have HQ2 : Hid _ := pd_dir ex L c (k + 1) a l w2 HS2.out HG.out
      have HM1 : Hid (P = (pDirs1 (l.drop (k + 1))).map fun y => (g ++ y.1, y.2)) := by rw [Hid, HM.out, pDirs_go HG.out HR.out.symm]
      clear HM HR
      go_wp2_with fail
      refine Calls.mono HQ2.out ?_
      rintro e w3 ⟨⟨y, q, hy, rfl, s3⟩ | ⟨hy, rfl⟩, g3⟩
      case inr =>
        have HE : Hid (P = none) := by rw [Hid, HM1.out]; unfold pDirs1; rw [hy]; rfl
        have G3 : Hid (w.grownBy w3 (some L)) := grown_trans G2.out g3
        clear g3 HQ2 hy HM1
        go_wp2_with fail
        exact ⟨rfl, .inr ⟨HE.out, rfl⟩, G3.out⟩
      have hq := s3.le
      have hkq : k < q := by have := drop_lt (r := l) hq (pDir_len hy); omega
      have HM2 : Hid (P = (pDirs (l.drop q)).map fun z => ((g ++ [y]) ++ z.1, z.2)) := by
        rw [Hid, HM1.out]; exact pDirs1_step hy g
      unfold diV1
      obtain ⟨U, hU⟩ : ∃ U, U = w3.alloc (.cells #[.bool y.sk, .int .i64 y.v.k, .int .i64 y.v.n, .string y.v.t] 105) := ⟨_, rfl⟩
      have BU : Below w3.heap.size w3 U := by rw [hU]; exact (Below.refl _ _).alloc (Nat.le_refl _) _
      have cU : U.heap[w3.heap.size]? = some (.cells #[.bool y.sk, .int .i64 y.v.k, .int .i64 y.v.n, .string y.v.t] 105 (0, 0)) := by rw [hU]; exact heap_alloc_new _ _
      have G3 : Hid (w.grownBy U (some L)) := grown_below (grown_trans G2.out g3) BU
      have SU : Hid (RdSt 37 ex U L a c l q) := s3.below BU
      have O3 : U.ownsRow w.heap.size 105 4 (.slice a' g.length c') g.length (diVs g) := by rw [hU]; exact (own_grown O2.out g3 hLw).alloc _
      have z3 := G3.out.size
      have hln := HLN.out
      obtain ⟨ig, hig, hzg, hsg, hbg⟩ := info_dir
      obtain ⟨g8, cap8, W8, hrun, o8, gr8, hat8, hlt8⟩ := run_append_lies (P := Tryz.prog) U 82 82 w.heap.size 105 ig _ 4 40 Tryz.underlying82 hig hzg hsg hbg rfl (by decide) (.slice a' g.length c') g.length (diVs g) O3 ⟨w3.heap.size, 0, none⟩ 1 1 [.bool y.sk, .int .i64 y.v.k, .int .i64 y.v.n, .string y.v.t] rfl (fun t u ht => by
        rw [add_plain]
        have := row_cell cU (0 + t)
        rw [this, ← ht]
        simp) (fun u hu => by
          simp only [List.mem_cons, List.not_mem_nil, or_false] at hu
          rcases hu with rfl | rfl | rfl | rfl <;> rfl) (by omega) (by unfold maxLen; omega) (by omega) z3 _ rfl
      have O8 : Hid (W8.ownsRow w.heap.size 105 4 (.slice (some ⟨g8, 0, none⟩) (g ++ [y]).length cap8) (g ++ [y]).length (diVs (g ++ [y]))) := by
        rw [Hid, diVs_snoc, List.length_append]; exact o8
      have hoff : ∀ q, (Value.slice a' g.length c').ownBlock = some q → L < q := fun q hq => by have := (World.ownsRow.lt O3 q hq).1; omega
      have S8 : Hid (RdSt 37 ex W8 L a c l q) := SU.out.keep fun t ht => gr8.block t (by have := SU.out.lt; omega) (fun e => by have := hoff t e.symm; omega)
      have G8 : Hid (w.grownBy W8 (some L)) := grown_append G3.out gr8 (fun t ht => (World.ownsRow.lt O3 t ht).1)
      have HP8 : Hid (rdPos W8 L = q) := rdPos_of S8.out
      have HRUN : Hid _ := hrun
      have HU : Hid (U = _) := hU
      clear hln hU hrun o8 gr8 hat8 O3 cU BU g3 s3 HQ2 hy HM1 hoff hig hzg hsg hbg
      go_wp2_with (first | (at_builtin; rw [← HU.out]; refine wpList_append_runR rfl _ _ _ rfl _ _ _ _ rfl rfl HRUN.out ?_) | fail)
      exact ⟨⟨q, g ++ [y], some ⟨g8, 0, none⟩, cap8, by simp, by simp; omega, hq, S8, G8, O8, HM2⟩, by rw [HP8.out, HPO.out]; omega⟩
end Go.Proofs.YtlilfbcngncllaaGreatDoor
namespace Go.Proofs.YtlilfbcngncllaaGreatDoor
open Go.ChangeShapes Go.WideShapes Go.ChangeAt Go.RowKit
set_option linter.unusedVariables false

theorem owns_same {w w' : World} {base : Nat} {e : TypeId} {size : Nat} {v : Value} {n : Nat} {xs : List Value} (h : w.ownsRow base e size v n xs) (hs : ∀ g, v.ownBlock = some g → w'.heap[g]? = w.heap[g]?) : w'.ownsRow base e size v n xs := by
  refine ⟨h.1, ?_⟩
  rcases h.2 with h0 | ⟨g, cap, cur, rfl, q1, q2, q3⟩
  · exact .inl h0
  · exact .inr ⟨g, cap, cur, rfl, q1, (hs g rfl).trans q2, q3⟩
theorem owns_base {w : World} {base b : Nat} {e : TypeId} {size : Nat} {v : Value} {n : Nat} {xs : List Value} (h : w.ownsRow base e size v n xs) (hs : ∀ g, v.ownBlock = some g → b ≤ g) : w.ownsRow b e size v n xs := by
  refine ⟨h.1, ?_⟩
  rcases h.2 with h0 | ⟨g, cap, cur, rfl, q1, q2, q3⟩
  · exact .inl h0
  · exact .inr ⟨g, cap, cur, rfl, hs g rfl, q2, q3⟩
/-- A value's block. -/
def blk (v : Value) : List Nat := v.ownBlock.toList
theorem blk_mem {v : Value} {g : Nat} (h : g ∈ blk v) : v.ownBlock = some g := by unfold blk at h; simpa using h
theorem mem_blk {v : Value} {g : Nat} (h : v.ownBlock = some g) : g ∈ blk v := by unfold blk; rw [h]; simp
theorem blk_nd (v : Value) : (blk v).Nodup := by unfold blk; cases v.ownBlock <;> simp
/-- Selections' cells, and the blocks of their lists. -/
def KidB (W : World) : Sels → List Value → List Nat → Prop
  | .nil, vs, bs => vs = [] ∧ bs = []
  | .cons h sub rest, vs, bs => ∃ va vd vsub vr ws bk br, vs = [.int .i64 h.k, .string h.al, .string h.nm, va, vd, vsub] ++ vr ∧ bs = (blk va ++ (blk vd ++ (blk vsub ++ bk))) ++ br ∧
      W.ownsRow 0 103 4 va h.args.length (arVs h.args) ∧ W.ownsRow 0 105 4 vd h.dirs.length (diVs h.dirs) ∧ W.ownsRow 0 84 6 vsub sub.len ws ∧ KidB W sub ws bk ∧ KidB W rest vr br
theorem KidB.lt {W : World} : ∀ {l : Sels} {vs : List Value} {bs : List Nat}, KidB W l vs bs → ∀ g ∈ bs, g < W.heap.size
  | .nil, _, _, ⟨_, h⟩, g, hg => by rw [h] at hg; simp at hg
  | .cons h sub rest, _, _, ⟨va, vd, vsub, vr, ws, bk, br, _, hb, o1, o2, o3, k1, k2⟩, g, hg => by
    rw [hb] at hg
    simp only [List.mem_append] at hg
    rcases hg with (hg | hg | hg | hg) | hg
    · exact (World.ownsRow.lt o1 g (blk_mem hg)).2
    · exact (World.ownsRow.lt o2 g (blk_mem hg)).2
    · exact (World.ownsRow.lt o3 g (blk_mem hg)).2
    · exact KidB.lt k1 g hg
    · exact KidB.lt k2 g hg
theorem KidB.keep {W W' : World} : ∀ {l : Sels} {vs : List Value} {bs : List Nat}, KidB W l vs bs → (∀ g ∈ bs, W'.heap[g]? = W.heap[g]?) → KidB W' l vs bs
  | .nil, _, _, h, _ => h
  | .cons h sub rest, _, _, ⟨va, vd, vsub, vr, ws, bk, br, hv, hb, o1, o2, o3, k1, k2⟩, hk => by
    refine ⟨va, vd, vsub, vr, ws, bk, br, hv, hb, owns_same o1 fun g hg => hk g ?_, owns_same o2 fun g hg => hk g ?_, owns_same o3 fun g hg => hk g ?_, KidB.keep k1 fun g hg => hk g ?_, KidB.keep k2 fun g hg => hk g ?_⟩
    all_goals rw [hb]; simp only [List.mem_append]
    · exact .inl (.inl (mem_blk hg))
    · exact .inl (.inr (.inl (mem_blk hg)))
    · exact .inl (.inr (.inr (.inl (mem_blk hg))))
    · exact .inl (.inr (.inr (.inr hg)))
    · exact .inr hg
/-- One selection's lists. -/
structure OneK (base : Nat) (W : World) (h : Hd) (sub : Sels) (va vd vsub : Value) (ws : List Value) (bk : List Nat) : Prop where
  a : W.ownsRow 0 103 4 va h.args.length (arVs h.args)
  d : W.ownsRow 0 105 4 vd h.dirs.length (diVs h.dirs)
  s : W.ownsRow 0 84 6 vsub sub.len ws
  k : KidB W sub ws bk
  nd : (blk va ++ (blk vd ++ (blk vsub ++ bk))).Nodup
  inn : ∀ g ∈ blk va ++ (blk vd ++ (blk vsub ++ bk)), base ≤ g ∧ g < W.heap.size
/-- A row of selections. -/
structure RowK (base : Nat) (W : World) (V : Value) (l : Sels) (ws : List Value) (bk : List Nat) : Prop where
  own : W.ownsRow base 84 6 V l.len ws
  k : KidB W l ws bk
  nd : (blk V ++ bk).Nodup
  inn : ∀ g ∈ bk, base ≤ g ∧ g < W.heap.size
def RowB (base : Nat) (W : World) (V : Value) (l : Sels) : Prop := ∃ ws bk, RowK base W V l ws bk
def OneB (base : Nat) (W : World) (h : Hd) (sub : Sels) (va vd vsub : Value) : Prop := ∃ ws bk, OneK base W h sub va vd vsub ws bk
theorem RowK.all {base : Nat} {W : World} {V : Value} {l : Sels} {ws : List Value} {bk : List Nat} (h : RowK base W V l ws bk) : ∀ g ∈ blk V ++ bk, base ≤ g ∧ g < W.heap.size := fun g hg => by
  rcases List.mem_append.1 hg with hg | hg
  · exact World.ownsRow.lt h.own g (blk_mem hg)
  · exact h.inn g hg
theorem RowK.keep {base : Nat} {W W' : World} {V : Value} {l : Sels} {ws : List Value} {bk : List Nat} (h : RowK base W V l ws bk) (hz : W.heap.size ≤ W'.heap.size) (hk : ∀ g ∈ blk V ++ bk, W'.heap[g]? = W.heap[g]?) : RowK base W' V l ws bk :=
  ⟨owns_same h.own fun g hg => hk g (List.mem_append_left _ (mem_blk hg)), h.k.keep fun g hg => hk g (List.mem_append_right _ hg), h.nd, fun g hg => ⟨(h.inn g hg).1, by have := (h.inn g hg).2; omega⟩⟩
theorem OneK.keep {base : Nat} {W W' : World} {h : Hd} {sub : Sels} {va vd vsub : Value} {ws : List Value} {bk : List Nat} (H : OneK base W h sub va vd vsub ws bk) (hz : W.heap.size ≤ W'.heap.size) (hk : ∀ g ∈ blk va ++ (blk vd ++ (blk vsub ++ bk)), W'.heap[g]? = W.heap[g]?) : OneK base W' h sub va vd vsub ws bk := by
  refine ⟨owns_same H.a fun g hg => hk g ?_, owns_same H.d fun g hg => hk g ?_, owns_same H.s fun g hg => hk g ?_, H.k.keep fun g hg => hk g ?_, H.nd, fun g hg => ⟨(H.inn g hg).1, by have := (H.inn g hg).2; omega⟩⟩
  all_goals simp only [List.mem_append]
  · exact .inl (mem_blk hg)
  · exact .inr (.inl (mem_blk hg))
  · exact .inr (.inr (.inl (mem_blk hg)))
  · exact .inr (.inr (.inr hg))
theorem grown_same {W W' : World} {L g : Nat} (h : W.grownBy W' (some L)) (h1 : g < W.heap.size) (h2 : g ≠ L) : W'.heap[g]? = W.heap[g]? := h.block g h1 (by simpa using h2)
theorem RowK.grow {base L : Nat} {W W' : World} {V : Value} {l : Sels} {ws : List Value} {bk : List Nat} (h : RowK base W V l ws bk) (hg : W.grownBy W' (some L)) (hL : L < base) : RowK base W' V l ws bk :=
  h.keep hg.size fun g hm => grown_same hg (h.all g hm).2 (by have := (h.all g hm).1; omega)
theorem OneK.grow {base L : Nat} {W W' : World} {h : Hd} {sub : Sels} {va vd vsub : Value} {ws : List Value} {bk : List Nat} (H : OneK base W h sub va vd vsub ws bk) (hg : W.grownBy W' (some L)) (hL : L < base) : OneK base W' h sub va vd vsub ws bk :=
  H.keep hg.size fun g hm => grown_same hg (H.inn g hm).2 (by have := (H.inn g hm).1; omega)
theorem RowK.low {base b : Nat} {W : World} {V : Value} {l : Sels} {ws : List Value} {bk : List Nat} (h : RowK base W V l ws bk) (hb : b ≤ base) : RowK b W V l ws bk :=
  ⟨owns_base h.own fun g hg => by have := (World.ownsRow.lt h.own g hg).1; omega, h.k, h.nd, fun g hg => ⟨by have := (h.inn g hg).1; omega, (h.inn g hg).2⟩⟩
theorem RowK.nil (base : Nat) (W : World) : RowK base W (.slice none 0 0) .nil [] [] := ⟨⟨rfl, .inl ⟨rfl, rfl⟩⟩, ⟨rfl, rfl⟩, by simp [blk, Value.ownBlock], fun g hg => by simp at hg⟩
theorem KidB.snoc {W : World} {h : Hd} {sub : Sels} {va vd vsub : Value} {ws : List Value} {bk : List Nat} (a : W.ownsRow 0 103 4 va h.args.length (arVs h.args)) (d : W.ownsRow 0 105 4 vd h.dirs.length (diVs h.dirs)) (s : W.ownsRow 0 84 6 vsub sub.len ws) (k : KidB W sub ws bk) :
    ∀ (pre : List (Hd × Sels)) {vs : List Value} {bs : List Nat}, KidB W (app pre .nil) vs bs → KidB W (app (pre ++ [(h, sub)]) .nil) (vs ++ [.int .i64 h.k, .string h.al, .string h.nm, va, vd, vsub]) (bs ++ (blk va ++ (blk vd ++ (blk vsub ++ bk))))
  | [], vs, bs, ⟨h1, h2⟩ => by
    subst h1; subst h2
    exact ⟨va, vd, vsub, [], ws, bk, [], by simp, by simp, a, d, s, k, rfl, rfl⟩
  | x :: pre, _, _, ⟨va', vd', vsub', vr, ws', bk', br, hv, hb, o1, o2, o3, k1, k2⟩ => by
    subst hv; subst hb
    exact ⟨va', vd', vsub', _, ws', bk', _, List.append_assoc _ _ _, List.append_assoc _ _ _, o1, o2, o3, k1, KidB.snoc a d s k pre k2⟩
/-- A selection more. -/
theorem RowK.push {base L g8 n8 c8 : Nat} {W0 W U W8 : World} {V va vd vsub : Value} {pre : List (Hd × Sels)} {h : Hd} {sub : Sels} {ws ws' : List Value} {bk bk' : List Nat} (R : RowK base W0 V (app pre .nil) ws bk) (G : W0.grownBy W (some L)) (hL : L < base) (hb : base ≤ W0.heap.size)
    (O : OneK W0.heap.size W h sub va vd vsub ws' bk') (BU : Below W.heap.size W U) (gr : U.grownBy W8 V.ownBlock) (hat : V.ownBlock = some g8 ∨ g8 = U.heap.size)
    (ho : W8.ownsRow base 84 6 (.slice (some ⟨g8, 0, none⟩) n8 c8) (app (pre ++ [(h, sub)]) .nil).len (ws ++ [.int .i64 h.k, .string h.al, .string h.nm, va, vd, vsub])) :
    RowK base W8 (.slice (some ⟨g8, 0, none⟩) n8 c8) (app (pre ++ [(h, sub)]) .nil) (ws ++ [.int .i64 h.k, .string h.al, .string h.nm, va, vd, vsub]) (bk ++ (blk va ++ (blk vd ++ (blk vsub ++ bk')))) := by
  have R1 := R.grow G hL
  have hz := BU.size
  have hz8 := gr.size
  have hz0 := G.size
  have kp : ∀ g, g < W.heap.size → V.ownBlock ≠ some g → W8.heap[g]? = W.heap[g]? := fun g h1 h2 => (gr.block g (by omega) (fun e => h2 e.symm)).trans (BU.block g h1)
  have hV : ∀ g, V.ownBlock = some g → g < W0.heap.size := fun g hg => (World.ownsRow.lt R.own g hg).2
  have hnd := List.nodup_append.1 R.nd
  have kid : ∀ g ∈ bk, V.ownBlock ≠ some g := fun g hg e => hnd.2.2 g (mem_blk e) g hg rfl
  have new : ∀ g ∈ blk va ++ (blk vd ++ (blk vsub ++ bk')), V.ownBlock ≠ some g := fun g hg e => by have := hV g e; have := (O.inn g hg).1; omega
  have O8 := O.keep (W' := W8) (by omega) fun g hg => kp g (O.inn g hg).2 (new g hg)
  refine ⟨ho, KidB.snoc O8.a O8.d O8.s O8.k pre (R1.k.keep fun g hg => kp g (R1.inn g hg).2 (kid g hg)), ?_, fun g hg => ?_⟩
  · have e : blk (.slice (some ⟨g8, 0, none⟩) n8 c8) = [g8] := rfl
    rw [e, List.nodup_append]
    refine ⟨by simp, ?_, fun x hx y hy e => ?_⟩
    · rw [List.nodup_append]
      refine ⟨hnd.2.1, O.nd, fun x hx y hy e => ?_⟩
      subst e
      have := (R.inn x hx).2
      have := (O.inn x hy).1
      omega
    · subst e
      simp only [List.mem_singleton] at hx
      subst hx
      rcases List.mem_append.1 hy with hy | hy
      · rcases hat with hat | hat
        · exact kid x hy hat
        · have := (R1.inn x hy).2; omega
      · rcases hat with hat | hat
        · exact new x hy hat
        · have := (O.inn x hy).2; omega
  · rcases List.mem_append.1 hg with hg | hg
    · have := R1.inn g hg; exact ⟨this.1, by omega⟩
    · have := O.inn g hg; exact ⟨by omega, by omega⟩
/-- The first selection of a row. -/
theorem RowK.first {base : Nat} {W : World} {h : Hd} {sub : Sels} {va vd vsub : Value} {ws : List Value} {bk : List Nat} (O : OneK base W h sub va vd vsub ws bk) (hb : base ≤ W.heap.size) :
    RowK base (W.alloc (.cells #[.int .i64 h.k, .string h.al, .string h.nm, va, vd, vsub] 84)) (.slice (some ⟨W.heap.size, 0, none⟩) 1 1) (app [(h, sub)] .nil) [.int .i64 h.k, .string h.al, .string h.nm, va, vd, vsub] (blk va ++ (blk vd ++ (blk vsub ++ bk))) := by
  have hB : Below W.heap.size W (W.alloc (.cells #[.int .i64 h.k, .string h.al, .string h.nm, va, vd, vsub] 84)) := (Below.refl _ _).alloc (Nat.le_refl _) _
  have O8 := O.keep hB.size fun g hg => hB.block g (O.inn g hg).2
  refine ⟨⟨rfl, .inr ⟨W.heap.size, 1, _, rfl, hb, heap_alloc_new _ _, Nat.le_refl _, by unfold maxLen; omega, rfl, rfl⟩⟩, ?_, ?_, fun g hg => O8.inn g hg⟩
  · have := KidB.snoc O8.a O8.d O8.s O8.k [] (vs := []) (bs := []) ⟨rfl, rfl⟩
    simpa using this
  · have e : blk (.slice (some ⟨W.heap.size, 0, none⟩) 1 1) = [W.heap.size] := rfl
    rw [e, List.nodup_append]
    refine ⟨by simp, O.nd, fun x hx y hy e => ?_⟩
    subst e
    simp only [List.mem_singleton] at hx
    have := (O.inn x hy).2
    omega
end Go.Proofs.YtlilfbcngncllaaGreatDoor
