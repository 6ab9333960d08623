/- Definitions in a row of its own that grows, and all that hangs on them. -/
import Derived.Test.YtlilfbcngncllaaGreatDoorSelFrom
import Derived.Test.YtlilfbcngncllaaGreatDoorDocImplTwo
namespace Go.Proofs.YtlilfbcngncllaaGreatDoor
open Go.ChangeShapes Go.WideShapes Go.ChangeAt Go.RowKit
set_option linter.unusedVariables false

/-- A definition's head at a place. -/
def pDh (l : List Tk) (i : Nat) : Option (Int × ByteArray × ByteArray × List Tk) :=
  if tkE (nxT l i) ⟨4, 0, ⟨#[123]⟩⟩ = true then some (1, ⟨#[]⟩, ⟨#[]⟩, l.drop i)
  else if (nmI l i).toList = [113, 117, 101, 114, 121] then
    (if (nmI l (i + 1)).toList = [] then some (1, ⟨#[]⟩, ⟨#[]⟩, l.drop (i + 1)) else some (1, nmI l (i + 1), ⟨#[]⟩, l.drop (i + 1 + 1)))
  else if (nmI l i).toList = [109, 117, 116, 97, 116, 105, 111, 110] then
    (if (nmI l (i + 1)).toList = [] then some (2, ⟨#[]⟩, ⟨#[]⟩, l.drop (i + 1)) else some (2, nmI l (i + 1), ⟨#[]⟩, l.drop (i + 1 + 1)))
  else if (nmI l i).toList = [102, 114, 97, 103, 109, 101, 110, 116] then
    (if (nmI l (i + 1)).toList = [] then none else if (nmI l (i + 1 + 1)).toList ≠ [111, 110] then none else if (nmI l (i + 1 + 1 + 1)).toList = [] then none
      else if (nmI l (i + 1)).toList = [111, 110] then none else some (3, nmI l (i + 1), nmI l (i + 1 + 1 + 1), l.drop (i + 1 + 1 + 1 + 1)))
  else none
def finD : Option (Int × ByteArray × ByteArray × List Tk) → PR De
  | none => .form
  | some (k, nm, on, r) => (match pSet 7 r with | .ok s r1 => .ok ⟨k, nm, on, s⟩ r1 | .form => .form | .deep => .deep)
theorem pDh_at {l : List Tk} (h : TkG l) (i : Nat) : pDefHead (l.drop i) = pDh l i := by
  unfold pDefHead pDh
  rw [show atM [123] (l.drop i) = _ from at_lit h #[123] i]
  by_cases h0 : tkE (nxT l i) ⟨4, 0, ⟨#[123]⟩⟩ = true
  · rw [if_pos h0, if_pos h0]
  · rw [if_neg h0, if_neg h0]
    simp only [drop2]
    rw [nm_at h, nm_at h, nm_at h, nm_at h, show i + 1 + 1 + 1 + 1 = i + 4 from rfl, show i + 1 + 1 + 1 = i + 3 from rfl, show i + 1 + 1 = i + 2 from rfl]
    generalize nmI l i = a0
    generalize nmI l (i + 1) = a1
    generalize nmI l (i + 2) = a2
    generalize nmI l (i + 3) = a3
    generalize hb0 : a0.toList = b0
    generalize hb1 : a1.toList = b1
    generalize hb2 : a2.toList = b2
    generalize hb3 : a3.toList = b3
    by_cases h1 : b0 = []
    · subst h1
      simp
    · simp only [if_neg h1, hb0]
      by_cases q1 : b0 = [113, 117, 101, 114, 121]
      · subst q1
        by_cases n1 : b1 = []
        · simp [n1]
        · simp [n1]
      · by_cases q2 : b0 = [109, 117, 116, 97, 116, 105, 111, 110]
        · subst q2
          by_cases n1 : b1 = []
          · simp [n1]
          · simp [n1]
        · by_cases q3 : b0 = [102, 114, 97, 103, 109, 101, 110, 116]
          · subst q3
            simp only [q1, q2, or_self, if_false, if_true]
            by_cases n1 : b1 = []
            · simp only [n1, if_true]
            · simp only [if_neg n1]
              by_cases n2 : b2 = []
              · simp only [n2, if_true]
                rw [if_pos (by decide)]
              · simp only [if_neg n2]
                by_cases o1 : b2 = [111, 110]
                · simp only [o1, ne_eq, not_true_eq_false, if_false]
                  by_cases n3 : b3 = []
                  · simp only [n3, if_true]
                  · simp only [if_neg n3]
                    by_cases o2 : b1 = [111, 110]
                    · simp [o2, hb1, hb2]
                    · simp [o2, o1, hb1, hb2]
                · rw [if_pos (show b2 ≠ [111, 110] from o1)]
                  by_cases n3 : b3 = []
                  · simp only [n3, if_true]
                  · simp only [if_neg n3]
                    rw [if_neg (fun hh => o1 (hb2 ▸ hh.2))]
          · simp [q1, q2, q3]
theorem pDef_at {l : List Tk} (h : TkG l) (i : Nat) : pDef (l.drop i) = finD (pDh l i) := by
  unfold pDef
  rw [pDh_at h]
  rfl
theorem nm_name {l : List Tk} (h : TkG l) {i : Nat} (hn : (nmI l i).toList ≠ []) : nameB (nmI l i) = true := by
  have hi := nm_lt hn
  have hb := h.ok _ (nx_mem hi)
  unfold nmI at hn ⊢
  by_cases hk : (nxT l i).k = 1
  · rw [if_pos hk]
    unfold tokB at hb
    rw [if_pos (.inl hk)] at hb
    simp only [Bool.and_eq_true] at hb
    exact hb.2
  · rw [if_neg hk] at hn
    exact absurd (by rw [ByteArray.toList_eq]) hn
theorem nm_bd {l : List Tk} (h : TkG l) (i : Nat) : (nmI l i).size ≤ maxLen := by
  unfold nmI
  split
  · by_cases hi : i < l.length
    · exact Nat.le_trans (h.bd _ (nx_mem hi)) (by decide)
    · rw [nx_end (by omega)]; exact Nat.zero_le _
  · exact Nat.zero_le _
structure DeS (w : World) (L N : Nat) (a : Option Addr) (c : Nat) (l : List Tk) (j : Nat) (kd : Int) (nm on : ByteArray) (vs : Value) (W : World) : Prop where
  st : RdSt 37 #[.int .i64 ((0 : Nat) : Int)] W L a c l j
  gr : w.grownBy W (some L)
  res : W.heap[w.heap.size]? = some (.cells #[.int .i64 0, .string ⟨#[]⟩, .string ⟨#[]⟩, .slice none 0 0] 47 (0, 0))
  x : W.heap[N]? = some (.cells #[.int .i64 kd, .string nm, .string on, vs] 47 (0, 0))
  low : L < w.heap.size
  hN : w.heap.size < N
theorem DeS.call {w : World} {L N : Nat} {a : Option Addr} {c : Nat} {l : List Tk} {j : Nat} {kd : Int} {nm on : ByteArray} {vs : Value} {W : World} {W' : World} {j' : Nat} (h : DeS w L N a c l j kd nm on vs W) (hr : RdSt 37 #[.int .i64 ((0 : Nat) : Int)] W' L a c l j') (hg : W.grownBy W' (some L)) : DeS w L N a c l j' kd nm on vs W' :=
  ⟨hr, grown_trans h.gr hg, grown_keeps h.res (Array.getElem?_eq_some_iff.1 h.res).1 hg (by have := h.low; omega), grown_keeps h.x (Array.getElem?_eq_some_iff.1 h.x).1 hg (by have := h.low; have := h.hN; omega), h.low, h.hN⟩
theorem DeS.put {w : World} {L N : Nat} {a : Option Addr} {c : Nat} {l : List Tk} {j : Nat} {kd : Int} {nm on : ByteArray} {vs : Value} {W : World} {kd' : Int} {nm' on' : ByteArray} {vs' : Value} (h : DeS w L N a c l j kd nm on vs W) (k : Nat) (v : Value) (e : (#[.int .i64 kd, .string nm, .string on, vs] : Array Value).setIfInBounds k v = #[.int .i64 kd', .string nm', .string on', vs']) : DeS w L N a c l j kd' nm' on' vs' (W.setCell ⟨N, k, none⟩ v) :=
  ⟨h.st.keep fun g hg => heap_setCell_other _ _ _ _ (by have := h.low; have := h.hN; show g ≠ N; omega), grown_new h.gr (by have := h.hN; omega) _, (heap_setCell_other _ _ _ _ (by have := h.hN; show w.heap.size ≠ N; omega)).trans h.res, by have := row_set h.x k v; rw [e] at this; exact this, h.low, h.hN⟩
/-- A definition is told, or a fault. -/
def DefP (L : Nat) (a : Option Addr) (c : Nat) (l : List Tk) (R : PR De) (w : World) (e : Ending) (w' : World) : Prop :=
  ((∃ x j a5 c5, R = .ok x (l.drop j) ∧ e = .returned (.agg #[.int .i64 x.k, .string x.nm, .string x.on, .slice a5 x.sels.len c5]) ∧ RowB w.heap.size w' (.slice a5 x.sels.len c5) x.sels ∧ RdSt 37 #[.int .i64 ((0 : Nat) : Int)] w' L a c l j) ∨ (R = .form ∧ badF e) ∨ (R = .deep ∧ deepF e)) ∧ w.grownBy w' (some L)
def put4w (W : World) (b : Nat) (v0 v1 v2 v3 : Value) : World := (((W.setCell ⟨b, 0, none⟩ v0).setCell ⟨b, 1, none⟩ v1).setCell ⟨b, 2, none⟩ v2).setCell ⟨b, 3, none⟩ v3
theorem RowB.set {base N k : Nat} {W : World} {V : Value} {s : Sels} (O : RowB base W V s) (v : Value) (hN : N < base) : RowB base (W.setCell ⟨N, k, none⟩ v) V s := by
  obtain ⟨ws, bk, O⟩ := O
  exact ⟨ws, bk, O.keep (((Below.refl N W).setCell (p := ⟨N, k, none⟩) (Nat.le_refl _) v).size) fun g hg => heap_setCell_other _ _ _ _ (by have := (O.all g hg).1; show g ≠ N; omega)⟩
theorem def_done {ex : Array Value} {w W : World} {L c j : Nat} {a : Option Addr} {l : List Tk} {y0 y1 y2 y3 V : Value} {sub : Sels} (st : RdSt 37 ex W L a c l j) (gr : w.grownBy W (some L)) (res : W.heap[w.heap.size]? = some (.cells #[y0, y1, y2, y3] 47 (0, 0))) (low : L < w.heap.size)
    (O : RowB (w.heap.size + 1) W V sub) (x0 x1 x2 x3 : Value) :
    RdSt 37 ex (put4w W w.heap.size x0 x1 x2 x3) L a c l j ∧ RowB w.heap.size (put4w W w.heap.size x0 x1 x2 x3) V sub ∧ w.grownBy (put4w W w.heap.size x0 x1 x2 x3) (some L) ∧
      (put4w W w.heap.size x0 x1 x2 x3).heap[w.heap.size]? = some (.cells #[x0, x1, x2, x3] 47 (0, 0)) := by
  refine ⟨st.keep fun g hg => ?_, ?_, ?_, ?_⟩
  · unfold put4w
    rw [heap_setCell_other _ _ _ _ (by show g ≠ w.heap.size; omega), heap_setCell_other _ _ _ _ (by show g ≠ w.heap.size; omega), heap_setCell_other _ _ _ _ (by show g ≠ w.heap.size; omega), heap_setCell_other _ _ _ _ (by show g ≠ w.heap.size; omega)]
  · obtain ⟨ws, bk, O6⟩ := (((O.set (k := 0) x0 (N := w.heap.size) (by omega)).set (k := 1) x1 (N := w.heap.size) (by omega)).set (k := 2) x2 (N := w.heap.size) (by omega)).set (k := 3) x3 (N := w.heap.size) (by omega)
    exact ⟨ws, bk, O6.low (by omega)⟩
  · exact grown_new (grown_new (grown_new (grown_new gr (Nat.le_refl _) _) (Nat.le_refl _) _) (Nat.le_refl _) _) (Nat.le_refl _) _
  · exact row_set (row_set (row_set (row_set res 0 x0) 1 x1) 2 x2) 3 x3
theorem results_def (tmps : Array Value) (W : World) (N : Nat) (cs : Array Value) (h2 : tmps.getD 2 undef = .pointer (some ⟨N, 0, none⟩)) (hrow : W.heap[N]? = some (.cells cs 47 (0, 0))) (hsz : cs.size = 4) :
    (results Tryz.f23 tmps).run Tryz.prog W = .ok (.agg cs) W := by
  have c39 : (Tryz.prog.info? 47).map (·.size) = some 4 := by kernel_rfl
  exact results_cell_row Tryz.results23 tmps W N 47 cs (0, 0) _ h2 hrow Tryz.underlying47 rfl (by rw [hsz]; exact c39)
set_option maxHeartbeats 16000000 in
theorem pd_def (L c i : Nat) (a : Option Addr) (l : List Tk) (w : World) (h : RdSt 37 #[.int .i64 ((0 : Nat) : Int)] w L a c l i) (hl : TkG l) :
    Calls Tryz.prog 23 #[.pointer (some ⟨L, 0, none⟩)] w (DefP L a c l (pDef (l.drop i)) w) := by
  obtain ⟨P, HP⟩ : ∃ P, Hid (P = pDef (l.drop i)) := ⟨_, rfl⟩
  rw [← HP.out]
  rw [pDef_at hl] at HP
  have HG : Hid _ := hl
  obtain ⟨V, hV⟩ : ∃ V, V = w.alloc (.cells #[.int .i64 0, .string ⟨#[]⟩, .string ⟨#[]⟩, .slice none 0 0] 47) := ⟨_, rfl⟩
  have BV : Below w.heap.size w V := by rw [hV]; exact (Below.refl _ _).alloc (Nat.le_refl _) _
  have cV : V.heap[w.heap.size]? = some (.cells #[.int .i64 0, .string ⟨#[]⟩, .string ⟨#[]⟩, .slice none 0 0] 47 (0, 0)) := by rw [hV]; exact heap_alloc_new _ _
  have zV : w.heap.size < V.heap.size := by rw [hV]; simp
  have hLw := h.lt
  have HSV : Hid (RdSt 37 #[.int .i64 ((0 : Nat) : Int)] V L a c l i) := h.below BV
  have HQ : Hid _ := rd_atPunct 37 #[.int .i64 ((0 : Nat) : Int)] L c i a l ⟨#[123]⟩ V HSV.out
  have GV : Hid (w.grownBy V (some L)) := grown_below (grown_refl w _) BV
  have HCV : Hid _ := cV
  clear h BV cV hl
  unfold pDh at HP
  obtain ⟨r, HR⟩ : ∃ r, Hid (r = tkE (nxT l i) ⟨4, 0, ⟨#[123]⟩⟩) := ⟨_, rfl⟩
  rw [← HR.out] at HQ HP
  clear HR
  go_enter Tryz.func23, Tryz.ntmps23
  go_upto_region 1 with fail
  rw [← hV]
  clear hV
  go_wp2_with fail
  refine Calls.mono HQ.out ?_
  rintro e w1 ⟨rfl, b1⟩
  have z1 := b1.size
  have C1 : Hid (w1.heap[w.heap.size]? = some (.cells #[.int .i64 0, .string ⟨#[]⟩, .string ⟨#[]⟩, .slice none 0 0] 47 (0, 0))) := (b1.block _ zV).trans HCV.out
  have G1 : Hid (w.grownBy w1 (some L)) := grown_below GV.out b1
  have S1 : Hid (RdSt 37 #[.int .i64 ((0 : Nat) : Int)] w1 L a c l i) := HSV.out.below b1
  clear b1 HQ GV HCV HSV
  cases r with
  | true =>
    have HPd : Hid (P = finD (some (1, ⟨#[]⟩, ⟨#[]⟩, l.drop i))) := by rw [Hid, HP.out, if_pos rfl]
    clear HP
    have HQs : Hid _ := set_ok 7 0 L c i a l w1 rfl S1.out HG.out
    go_wp2_with fail
    refine Calls.mono HQs.out ?_
    rintro e w6 ⟨⟨sub, j6, a5, c5, hR, rfl, row, s6⟩ | ⟨hR, rfl⟩ | ⟨hR, rfl⟩, g6⟩
    case inr.inl =>
      have HE : Hid (P = .form) := by rw [Hid, HPd.out]; unfold finD; simp only; rw [hR]
      have G6 : Hid (w.grownBy w6 (some L)) := grown_trans G1.out g6
      clear g6 HQs hR
      go_wp2_with fail
      exact ⟨rfl, .inr (.inl ⟨HE.out, rfl⟩), G6.out⟩
    case inr.inr =>
      have HE : Hid (P = .deep) := by rw [Hid, HPd.out]; unfold finD; simp only; rw [hR]
      have G6 : Hid (w.grownBy w6 (some L)) := grown_trans G1.out g6
      clear g6 HQs hR
      go_wp2_with fail
      exact ⟨rfl, .inr (.inr ⟨HE.out, rfl⟩), G6.out⟩
    have HE : Hid (P = .ok ⟨1, ⟨#[]⟩, ⟨#[]⟩, sub⟩ (l.drop j6)) := by rw [Hid, HPd.out]; unfold finD; simp only; rw [hR]
    have C6 : Hid (w6.heap[w.heap.size]? = some (.cells #[.int .i64 0, .string ⟨#[]⟩, .string ⟨#[]⟩, .slice none 0 0] 47 (0, 0))) := grown_keeps C1.out (by omega) g6 (by omega)
    have O6 : Hid (RowB (w.heap.size + 1) w6 (.slice a5 sub.len c5) sub) := by
      obtain ⟨ws, bk, R6⟩ := row
      exact ⟨ws, bk, R6.low (by omega)⟩
    have D := def_done s6 (grown_trans G1.out g6) C6.out hLw O6.out (.int .i64 1) (.string ⟨#[]⟩) (.string ⟨#[]⟩) (.slice a5 sub.len c5)
    have HD9 : Hid _ := D
    have xR := fun o => row_cell C6.out o
    have fR := fun o => row_frozen C6.out o
    clear D hR row s6 g6 HQs HPd
    go_wp2_with fail
    exact bodyPost_ret (v := .agg #[.int .i64 1, .string ⟨#[]⟩, .string ⟨#[]⟩, .slice a5 sub.len c5]) (results_def _ _ w.heap.size _ rfl HD9.out.2.2.2 rfl) rfl ⟨.inl ⟨⟨1, ⟨#[]⟩, ⟨#[]⟩, sub⟩, _, _, _, HE.out, rfl, HD9.out.2.1, HD9.out.1⟩, HD9.out.2.2.1⟩
  | false =>
    obtain ⟨U, hU⟩ : ∃ U, U = w1.alloc (.cells #[.int .i64 0, .string ⟨#[]⟩, .string ⟨#[]⟩, .slice none 0 0] 47) := ⟨_, rfl⟩
    have BU : Below w1.heap.size w1 U := by rw [hU]; exact (Below.refl _ _).alloc (Nat.le_refl _) _
    have SU : Hid (DeS w L (w1.heap.size) a c l i 0 ⟨#[]⟩ ⟨#[]⟩ (.slice none 0 0) U) := by
      refine ⟨S1.out.below BU, grown_below G1.out BU, (BU.block _ (by omega)).trans C1.out, ?_, hLw, by omega⟩
      rw [hU]; exact heap_alloc_new _ _
    have HP2 : Hid _ := HP.out.trans (congrArg finD (if_neg (by decide)))
    have HQ2 : Hid _ := rd_name 37 #[.int .i64 ((0 : Nat) : Int)] L c i a l U SU.out.st HG.out.len
    clear S1 G1 C1 BU HP
    go_upto_region 4 with fail
    rw [← hU]
    clear hU
    go_wp2_with fail
    refine Calls.mono HQ2.out ?_
    rintro e w2 ⟨⟨hn, rfl, s2⟩ | ⟨hn, rfl⟩, g2⟩
    case inr =>
      have HE : Hid (P = .form) := by rw [Hid, HP2.out, if_neg (by rw [hn]; decide), if_neg (by rw [hn]; decide), if_neg (by rw [hn]; decide)]; rfl
      have G2 : Hid (w.grownBy w2 (some L)) := grown_trans SU.out.gr g2
      clear g2 HQ2 hn SU
      go_wp2_with fail
      exact ⟨rfl, .inr (.inl ⟨HE.out, rfl⟩), G2.out⟩
    have S2 : Hid _ := SU.out.call s2 g2
    clear hn s2 g2 HQ2 SU
    generalize nmI l i = wd at *
    by_cases q1 : wd.toList = [113, 117, 101, 114, 121]
    · have e1 : (wd.toList == [113, 117, 101, 114, 121]) = true := by simp [q1]
      have HPk : Hid (P = finD (if (nmI l (i + 1)).toList = [] then some (1, ⟨#[]⟩, ⟨#[]⟩, l.drop (i + 1)) else some (1, nmI l (i + 1), ⟨#[]⟩, l.drop (i + 1 + 1)))) := by rw [Hid, HP2.out]; rw [if_pos q1]
      clear HP2
      obtain ⟨X, hX⟩ : ∃ X : World, X = w2.setCell ⟨w1.heap.size, 0, none⟩ (.int .i64 1) := ⟨_, rfl⟩
      have T2 : Hid (DeS w L (w1.heap.size) a c l (i + 1) 1 ⟨#[]⟩ ⟨#[]⟩ (.slice none 0 0) X) := by rw [Hid, hX]; exact S2.out.put 0 _ rfl
      have f3 := fun o => row_frozen S2.out.x o
      have y3 := fun o => row_cell S2.out.x o
      go_upto_region 7 with fail
      rw [← hX]
      clear hX f3 y3 S2
      have HQi : Hid _ := rd_nameIf 37 #[.int .i64 ((0 : Nat) : Int)] L c (i + 1) a l X T2.out.st HG.out.len
      go_wp2_with fail
      refine Calls.mono HQi.out ?_
      rintro e w3 ⟨rfl, s3, g3⟩
      rw [nm_adv HG.out] at s3
      have S3 : Hid _ := T2.out.call s3 g3
      have HNB : Hid ((nmI l (i + 1)).size ≤ maxLen ∧ ((nmI l (i + 1)).toList ≠ [] → nameB (nmI l (i + 1)) = true)) := ⟨nm_bd HG.out _, nm_name HG.out⟩
      clear s3 g3 HQi T2
      generalize nmI l (i + 1) = nm at *
      obtain ⟨X2, hX2⟩ : ∃ X : World, X = w3.setCell ⟨w1.heap.size, 1, none⟩ (.string nm) := ⟨_, rfl⟩
      have SX2 : Hid (DeS w L (w1.heap.size) a c l (if nm.toList = [] then i + 1 else i + 1 + 1) 1 nm ⟨#[]⟩ (.slice none 0 0) X2) := by rw [Hid, hX2]; exact S3.out.put 1 _ rfl
      have f3 := fun o => row_frozen S3.out.x o
      have y3 := fun o => row_cell S3.out.x o
      go_upto_region 16 with fail
      rw [← hX2]
      clear hX2 f3 y3 S3
      have HSZ : Hid (nm.size ≤ maxLen ∧ (⟨#[]⟩ : ByteArray).size ≤ maxLen) := ⟨HNB.out.1, Nat.zero_le _⟩
      obtain ⟨q, hq⟩ : ∃ q, q = if nm.toList = [] then i + 1 else i + 1 + 1 := ⟨_, rfl⟩
      have HPd : Hid (P = finD (some (1, nm, ⟨#[]⟩, l.drop q))) := by
        rw [Hid, HPk.out, hq]
        by_cases e0 : nm.toList = []
        · rw [if_pos e0, if_pos e0]
          have : nm = ⟨#[]⟩ := by
            have h1 : nm.data.toList = [] := by rw [← ByteArray.toList_eq]; exact e0
            cases nm with | mk d => simp only [ByteArray.mk.injEq]; exact Array.toList_eq_nil_iff.1 h1
          rw [this]
        · rw [if_neg e0, if_neg e0]
      have HB : Hid (headB ⟨1, nm, ⟨#[]⟩, .nil⟩ = true) := by
        unfold Hid headB
        rw [if_pos (by simp), no_nil]
        by_cases e0 : nm.toList = []
        · rw [no_of e0]; rfl
        · rw [HNB.out.2 e0]; simp
      have SX : Hid (DeS w L (w1.heap.size) a c l q 1 nm ⟨#[]⟩ (.slice none 0 0) X2) := by rw [hq]; exact SX2.out
      clear HPk HNB SX2 hq

      have HQh : Hid _ := impl_head ⟨1, nm, ⟨#[]⟩, .nil⟩ 0 none 0 X2 HSZ.out.1 HSZ.out.2
      rw [HB.out] at HQh
      have xk := fun o => row_cell SX.out.x o
      go_wp2_with fail
      refine Calls.mono HQh.out ?_
      clear xk
      rintro e w5 ⟨rfl, b5⟩
      have S5 : Hid _ := SX.out.call (SX.out.st.below b5) (grown_below (grown_refl _ _) b5)
      clear b5 HQh SX HB HSZ
      have HQs : Hid _ := set_ok 7 0 L c (q) a l w5 rfl S5.out.st HG.out
      go_wp2_with fail
      refine Calls.mono HQs.out ?_
      rintro e w6 ⟨⟨sub, j6, a5, c5, hR, rfl, row, s6⟩ | ⟨hR, rfl⟩ | ⟨hR, rfl⟩, g6⟩

      case inr.inl =>
        have HE : Hid (P = .form) := by rw [Hid, HPd.out]; unfold finD; simp only; rw [hR]
        have G6 : Hid (w.grownBy w6 (some L)) := grown_trans S5.out.gr g6
        clear g6 HQs hR
        go_wp2_with fail
        exact ⟨rfl, .inr (.inl ⟨HE.out, rfl⟩), G6.out⟩
      case inr.inr =>
        have HE : Hid (P = .deep) := by rw [Hid, HPd.out]; unfold finD; simp only; rw [hR]
        have G6 : Hid (w.grownBy w6 (some L)) := grown_trans S5.out.gr g6
        clear g6 HQs hR
        go_wp2_with fail
        exact ⟨rfl, .inr (.inr ⟨HE.out, rfl⟩), G6.out⟩

      have HE : Hid (P = .ok ⟨1, nm, ⟨#[]⟩, sub⟩ (l.drop j6)) := by rw [Hid, HPd.out]; unfold finD; simp only; rw [hR]
      have z5 := (Array.getElem?_eq_some_iff.1 S5.out.x).1
      have S6 : Hid _ := S5.out.call s6 g6
      have hhN := S5.out.hN
      have O6 : Hid (RowB (w1.heap.size + 1) w6 (.slice a5 sub.len c5) sub) := by
        obtain ⟨ws, bk, R6⟩ := row
        exact ⟨ws, bk, R6.low (by omega)⟩
      clear hR row s6 g6 HQs z5 S5 HPd
      obtain ⟨Q, hQ⟩ : ∃ Q : World, Q = w6.setCell ⟨w1.heap.size, 3, none⟩ (.slice a5 sub.len c5) := ⟨_, rfl⟩
      have SQ : Hid (DeS w L (w1.heap.size) a c l j6 1 nm ⟨#[]⟩ (.slice a5 sub.len c5) Q) := by rw [Hid, hQ]; exact S6.out.put 3 _ rfl
      have OQ : Hid (RowB (w.heap.size + 1) Q (.slice a5 sub.len c5) sub) := by
        rw [Hid, hQ]
        obtain ⟨ws, bk, R6⟩ := O6.out.set (k := 3) (.slice a5 sub.len c5) (Nat.lt_succ_self w1.heap.size)
        exact ⟨ws, bk, R6.low (by omega)⟩
      have f3 := fun o => row_frozen S6.out.x o
      have y3 := fun o => row_cell S6.out.x o
      go_upto_region 19 with fail
      rw [← hQ]
      clear hQ f3 y3 S6 O6 hhN

      have D := def_done SQ.out.st SQ.out.gr SQ.out.res SQ.out.low OQ.out (.int .i64 1) (.string nm) (.string ⟨#[]⟩) (.slice a5 sub.len c5)
      have HD9 : Hid _ := D
      have xA := fun o => row_cell SQ.out.x o
      have xR := fun o => row_cell SQ.out.res o
      have fR := fun o => row_frozen SQ.out.res o
      clear D
      go_wp2_with fail
      exact bodyPost_ret (v := .agg #[.int .i64 1, .string nm, .string ⟨#[]⟩, .slice a5 sub.len c5]) (results_def _ _ w.heap.size _ rfl HD9.out.2.2.2 rfl) rfl ⟨.inl ⟨⟨1, nm, ⟨#[]⟩, sub⟩, _, _, _, HE.out, rfl, HD9.out.2.1, HD9.out.1⟩, HD9.out.2.2.1⟩
    have e1 : (wd.toList == [113, 117, 101, 114, 121]) = false := by simp [q1]
    by_cases q2 : wd.toList = [109, 117, 116, 97, 116, 105, 111, 110]
    · have e2 : (wd.toList == [109, 117, 116, 97, 116, 105, 111, 110]) = true := by simp [q2]
      have HPk : Hid (P = finD (if (nmI l (i + 1)).toList = [] then some (2, ⟨#[]⟩, ⟨#[]⟩, l.drop (i + 1)) else some (2, nmI l (i + 1), ⟨#[]⟩, l.drop (i + 1 + 1)))) := by rw [Hid, HP2.out]; rw [if_neg q1, if_pos q2]
      clear HP2
      obtain ⟨X, hX⟩ : ∃ X : World, X = w2.setCell ⟨w1.heap.size, 0, none⟩ (.int .i64 2) := ⟨_, rfl⟩
      have T2 : Hid (DeS w L (w1.heap.size) a c l (i + 1) 2 ⟨#[]⟩ ⟨#[]⟩ (.slice none 0 0) X) := by rw [Hid, hX]; exact S2.out.put 0 _ rfl
      have f3 := fun o => row_frozen S2.out.x o
      have y3 := fun o => row_cell S2.out.x o
      go_upto_region 10 with fail
      rw [← hX]
      clear hX f3 y3 S2
      have HQi : Hid _ := rd_nameIf 37 #[.int .i64 ((0 : Nat) : Int)] L c (i + 1) a l X T2.out.st HG.out.len
      go_wp2_with fail
      refine Calls.mono HQi.out ?_
      rintro e w3 ⟨rfl, s3, g3⟩
      rw [nm_adv HG.out] at s3
      have S3 : Hid _ := T2.out.call s3 g3
      have HNB : Hid ((nmI l (i + 1)).size ≤ maxLen ∧ ((nmI l (i + 1)).toList ≠ [] → nameB (nmI l (i + 1)) = true)) := ⟨nm_bd HG.out _, nm_name HG.out⟩
      clear s3 g3 HQi T2
      generalize nmI l (i + 1) = nm at *
      obtain ⟨X2, hX2⟩ : ∃ X : World, X = w3.setCell ⟨w1.heap.size, 1, none⟩ (.string nm) := ⟨_, rfl⟩
      have SX2 : Hid (DeS w L (w1.heap.size) a c l (if nm.toList = [] then i + 1 else i + 1 + 1) 2 nm ⟨#[]⟩ (.slice none 0 0) X2) := by rw [Hid, hX2]; exact S3.out.put 1 _ rfl
      have f3 := fun o => row_frozen S3.out.x o
      have y3 := fun o => row_cell S3.out.x o
      go_upto_region 16 with fail
      rw [← hX2]
      clear hX2 f3 y3 S3
      have HSZ : Hid (nm.size ≤ maxLen ∧ (⟨#[]⟩ : ByteArray).size ≤ maxLen) := ⟨HNB.out.1, Nat.zero_le _⟩
      obtain ⟨q, hq⟩ : ∃ q, q = if nm.toList = [] then i + 1 else i + 1 + 1 := ⟨_, rfl⟩
      have HPd : Hid (P = finD (some (2, nm, ⟨#[]⟩, l.drop q))) := by
        rw [Hid, HPk.out, hq]
        by_cases e0 : nm.toList = []
        · rw [if_pos e0, if_pos e0]
          have : nm = ⟨#[]⟩ := by
            have h1 : nm.data.toList = [] := by rw [← ByteArray.toList_eq]; exact e0
            cases nm with | mk d => simp only [ByteArray.mk.injEq]; exact Array.toList_eq_nil_iff.1 h1
          rw [this]
        · rw [if_neg e0, if_neg e0]
      have HB : Hid (headB ⟨2, nm, ⟨#[]⟩, .nil⟩ = true) := by
        unfold Hid headB
        rw [if_pos (by simp), no_nil]
        by_cases e0 : nm.toList = []
        · rw [no_of e0]; rfl
        · rw [HNB.out.2 e0]; simp
      have SX : Hid (DeS w L (w1.heap.size) a c l q 2 nm ⟨#[]⟩ (.slice none 0 0) X2) := by rw [hq]; exact SX2.out
      clear HPk HNB SX2 hq

      have HQh : Hid _ := impl_head ⟨2, nm, ⟨#[]⟩, .nil⟩ 0 none 0 X2 HSZ.out.1 HSZ.out.2
      rw [HB.out] at HQh
      have xk := fun o => row_cell SX.out.x o
      go_wp2_with fail
      refine Calls.mono HQh.out ?_
      clear xk
      rintro e w5 ⟨rfl, b5⟩
      have S5 : Hid _ := SX.out.call (SX.out.st.below b5) (grown_below (grown_refl _ _) b5)
      clear b5 HQh SX HB HSZ
      have HQs : Hid _ := set_ok 7 0 L c (q) a l w5 rfl S5.out.st HG.out
      go_wp2_with fail
      refine Calls.mono HQs.out ?_
      rintro e w6 ⟨⟨sub, j6, a5, c5, hR, rfl, row, s6⟩ | ⟨hR, rfl⟩ | ⟨hR, rfl⟩, g6⟩

      case inr.inl =>
        have HE : Hid (P = .form) := by rw [Hid, HPd.out]; unfold finD; simp only; rw [hR]
        have G6 : Hid (w.grownBy w6 (some L)) := grown_trans S5.out.gr g6
        clear g6 HQs hR
        go_wp2_with fail
        exact ⟨rfl, .inr (.inl ⟨HE.out, rfl⟩), G6.out⟩
      case inr.inr =>
        have HE : Hid (P = .deep) := by rw [Hid, HPd.out]; unfold finD; simp only; rw [hR]
        have G6 : Hid (w.grownBy w6 (some L)) := grown_trans S5.out.gr g6
        clear g6 HQs hR
        go_wp2_with fail
        exact ⟨rfl, .inr (.inr ⟨HE.out, rfl⟩), G6.out⟩

      have HE : Hid (P = .ok ⟨2, nm, ⟨#[]⟩, sub⟩ (l.drop j6)) := by rw [Hid, HPd.out]; unfold finD; simp only; rw [hR]
      have z5 := (Array.getElem?_eq_some_iff.1 S5.out.x).1
      have S6 : Hid _ := S5.out.call s6 g6
      have hhN := S5.out.hN
      have O6 : Hid (RowB (w1.heap.size + 1) w6 (.slice a5 sub.len c5) sub) := by
        obtain ⟨ws, bk, R6⟩ := row
        exact ⟨ws, bk, R6.low (by omega)⟩
      clear hR row s6 g6 HQs z5 S5 HPd
      obtain ⟨Q, hQ⟩ : ∃ Q : World, Q = w6.setCell ⟨w1.heap.size, 3, none⟩ (.slice a5 sub.len c5) := ⟨_, rfl⟩
      have SQ : Hid (DeS w L (w1.heap.size) a c l j6 2 nm ⟨#[]⟩ (.slice a5 sub.len c5) Q) := by rw [Hid, hQ]; exact S6.out.put 3 _ rfl
      have OQ : Hid (RowB (w.heap.size + 1) Q (.slice a5 sub.len c5) sub) := by
        rw [Hid, hQ]
        obtain ⟨ws, bk, R6⟩ := O6.out.set (k := 3) (.slice a5 sub.len c5) (Nat.lt_succ_self w1.heap.size)
        exact ⟨ws, bk, R6.low (by omega)⟩
      have f3 := fun o => row_frozen S6.out.x o
      have y3 := fun o => row_cell S6.out.x o
      go_upto_region 19 with fail
      rw [← hQ]
      clear hQ f3 y3 S6 O6 hhN

      have D := def_done SQ.out.st SQ.out.gr SQ.out.res SQ.out.low OQ.out (.int .i64 2) (.string nm) (.string ⟨#[]⟩) (.slice a5 sub.len c5)
      have HD9 : Hid _ := D
      have xA := fun o => row_cell SQ.out.x o
      have xR := fun o => row_cell SQ.out.res o
      have fR := fun o => row_frozen SQ.out.res o
      clear D
      go_wp2_with fail
      exact bodyPost_ret (v := .agg #[.int .i64 2, .string nm, .string ⟨#[]⟩, .slice a5 sub.len c5]) (results_def _ _ w.heap.size _ rfl HD9.out.2.2.2 rfl) rfl ⟨.inl ⟨⟨2, nm, ⟨#[]⟩, sub⟩, _, _, _, HE.out, rfl, HD9.out.2.1, HD9.out.1⟩, HD9.out.2.2.1⟩
    have e2 : (wd.toList == [109, 117, 116, 97, 116, 105, 111, 110]) = false := by simp [q2]
    by_cases q3 : wd.toList = [102, 114, 97, 103, 109, 101, 110, 116]
    · have e3 : (wd.toList == [102, 114, 97, 103, 109, 101, 110, 116]) = true := by simp [q3]
      have HPk : Hid _ := HP2.out.trans (congrArg finD ((if_neg q1).trans ((if_neg q2).trans (if_pos q3))))
      clear HP2 q1 q2 q3
      obtain ⟨X, hX⟩ : ∃ X : World, X = w2.setCell ⟨w1.heap.size, 0, none⟩ (.int .i64 3) := ⟨_, rfl⟩
      have T2 : Hid (DeS w L (w1.heap.size) a c l (i + 1) 3 ⟨#[]⟩ ⟨#[]⟩ (.slice none 0 0) X) := by rw [Hid, hX]; exact S2.out.put 0 _ rfl
      have f3 := fun o => row_frozen S2.out.x o
      have y3 := fun o => row_cell S2.out.x o
      go_upto_region 13 with fail
      rw [← hX]
      clear hX f3 y3 S2
      have HQi : Hid _ := rd_name 37 #[.int .i64 ((0 : Nat) : Int)] L c (i + 1) a l X T2.out.st HG.out.len
      go_wp2_with fail
      refine Calls.mono HQi.out ?_
      rintro e w3 ⟨⟨hn, rfl, s3⟩ | ⟨hn, rfl⟩, g3⟩
      case inr =>
        have HE : Hid (P = .form) := by rw [Hid, HPk.out, if_pos hn]; rfl
        have G3 : Hid (w.grownBy w3 (some L)) := grown_trans T2.out.gr g3
        clear g3 HQi hn T2
        go_wp2_with fail
        exact ⟨rfl, .inr (.inl ⟨HE.out, rfl⟩), G3.out⟩
      have HN1 : Hid (¬ (nmI l (i + 1)).toList = []) := hn
      have S3 : Hid _ := T2.out.call s3 g3
      have HNB : Hid ((nmI l (i + 1)).size ≤ maxLen ∧ nameB (nmI l (i + 1)) = true) := ⟨nm_bd HG.out _, nm_name HG.out hn⟩
      clear hn s3 g3 HQi T2
      generalize nmI l (i + 1) = nm at *
      obtain ⟨X2, hX2⟩ : ∃ X : World, X = w3.setCell ⟨w1.heap.size, 1, none⟩ (.string nm) := ⟨_, rfl⟩
      have S4 : Hid (DeS w L (w1.heap.size) a c l (i + 1 + 1) 3 nm ⟨#[]⟩ (.slice none 0 0) X2) := by rw [Hid, hX2]; exact S3.out.put 1 _ rfl
      have f3 := fun o => row_frozen S3.out.x o
      have y3 := fun o => row_cell S3.out.x o
      go_upto_region 14 with fail
      rw [← hX2]
      clear hX2 f3 y3 S3
      have HQw : Hid _ := rd_word 37 #[.int .i64 ((0 : Nat) : Int)] L c (i + 1 + 1) a l ⟨#[111, 110]⟩ X2 S4.out.st HG.out.len (by rw [tl_lit]; decide)
      go_wp2_with fail
      refine Calls.mono HQw.out ?_
      rintro e w4 ⟨⟨hm, rfl, s4⟩ | ⟨hm, rfl⟩, g4⟩
      case inr =>
        have HE : Hid (P = .form) := by rw [Hid, HPk.out, if_neg HN1.out, if_pos (by rw [tl_lit #[111, 110]] at hm; exact hm)]; rfl
        have G4 : Hid (w.grownBy w4 (some L)) := grown_trans S4.out.gr g4
        clear g4 HQw hm S4
        go_wp2_with fail
        exact ⟨rfl, .inr (.inl ⟨HE.out, rfl⟩), G4.out⟩
      have HM : Hid (¬ (nmI l (i + 1 + 1)).toList ≠ [111, 110]) := by rw [tl_lit #[111, 110]] at hm; exact fun hh => hh hm
      have T4 : Hid _ := S4.out.call s4 g4
      clear hm s4 g4 HQw S4
      have HQn : Hid _ := rd_name 37 #[.int .i64 ((0 : Nat) : Int)] L c (i + 1 + 1 + 1) a l w4 T4.out.st HG.out.len
      go_wp2_with fail
      refine Calls.mono HQn.out ?_
      rintro e w7 ⟨⟨hn, rfl, s7⟩ | ⟨hn, rfl⟩, g7⟩
      case inr =>
        have HE : Hid (P = .form) := by rw [Hid, HPk.out, if_neg HN1.out, if_neg HM.out, if_pos hn]; rfl
        have G7 : Hid (w.grownBy w7 (some L)) := grown_trans T4.out.gr g7
        clear g7 HQn hn T4
        go_wp2_with fail
        exact ⟨rfl, .inr (.inl ⟨HE.out, rfl⟩), G7.out⟩
      have HP7 : Hid _ := HPk.out.trans (congrArg finD ((if_neg HN1.out).trans ((if_neg HM.out).trans (if_neg hn))))
      have S7 : Hid _ := T4.out.call s7 g7
      have HNO : Hid ((nmI l (i + 1 + 1 + 1)).size ≤ maxLen ∧ nameB (nmI l (i + 1 + 1 + 1)) = true) := ⟨nm_bd HG.out _, nm_name HG.out hn⟩
      clear hn s7 g7 HQn T4 HPk HM HN1
      generalize nmI l (i + 1 + 1 + 1) = on at *
      obtain ⟨X3, hX3⟩ : ∃ X : World, X = w7.setCell ⟨w1.heap.size, 2, none⟩ (.string on) := ⟨_, rfl⟩
      have SX : Hid (DeS w L (w1.heap.size) a c l (i + 1 + 1 + 1 + 1) 3 nm on (.slice none 0 0) X3) := by rw [Hid, hX3]; exact S7.out.put 2 _ rfl
      have f3 := fun o => row_frozen S7.out.x o
      have y3 := fun o => row_cell S7.out.x o
      go_upto_region 16 with fail
      rw [← hX3]
      clear hX3 f3 y3 S7
      have HSZ : Hid (nm.size ≤ maxLen ∧ on.size ≤ maxLen) := ⟨HNB.out.1, HNO.out.1⟩
      by_cases o2 : nm.toList = [111, 110]
      · have HE : Hid (P = .form) := by rw [Hid, HP7.out, if_pos o2]; rfl
        have HB : Hid (headB ⟨3, nm, on, .nil⟩ = false) := by
          unfold Hid headB onB
          rw [if_neg (by simp), if_pos rfl, o2]
          simp
        have HQh : Hid _ := impl_head ⟨3, nm, on, .nil⟩ 0 none 0 X3 HSZ.out.1 HSZ.out.2
        rw [HB.out] at HQh
        have xk := fun o => row_cell SX.out.x o
        have GX := SX.out.gr
        go_wp2_with fail
        refine Calls.mono HQh.out ?_
        clear xk
        rintro e w5 ⟨rfl, b5⟩
        have G5 : Hid (w.grownBy w5 (some L)) := grown_below GX b5
        clear b5 GX HQh SX HB HSZ HP7
        go_wp2_with fail
        exact ⟨rfl, .inr (.inl ⟨HE.out, rfl⟩), G5.out⟩
      · have HPd : Hid (P = finD (some (3, nm, on, l.drop (i + 1 + 1 + 1 + 1)))) := by rw [Hid, HP7.out, if_neg o2]
        have HB : Hid (headB ⟨3, nm, on, .nil⟩ = true) := by
          unfold Hid headB onB
          rw [if_neg (by simp), if_pos rfl]
          simp [HNB.out.2, HNO.out.2, o2]
        clear HP7 o2 HNB HNO
        have HQh : Hid _ := impl_head ⟨3, nm, on, .nil⟩ 0 none 0 X3 HSZ.out.1 HSZ.out.2
        rw [HB.out] at HQh
        have xk := fun o => row_cell SX.out.x o
        go_wp2_with fail
        refine Calls.mono HQh.out ?_
        clear xk
        rintro e w5 ⟨rfl, b5⟩
        have S5 : Hid _ := SX.out.call (SX.out.st.below b5) (grown_below (grown_refl _ _) b5)
        clear b5 HQh SX HB HSZ
        have HQs : Hid _ := set_ok 7 0 L c (i + 1 + 1 + 1 + 1) a l w5 rfl S5.out.st HG.out
        go_wp2_with fail
        refine Calls.mono HQs.out ?_
        rintro e w6 ⟨⟨sub, j6, a5, c5, hR, rfl, row, s6⟩ | ⟨hR, rfl⟩ | ⟨hR, rfl⟩, g6⟩

        case inr.inl =>
          have HE : Hid (P = .form) := by rw [Hid, HPd.out]; unfold finD; simp only; rw [hR]
          have G6 : Hid (w.grownBy w6 (some L)) := grown_trans S5.out.gr g6
          clear g6 HQs hR
          go_wp2_with fail
          exact ⟨rfl, .inr (.inl ⟨HE.out, rfl⟩), G6.out⟩
        case inr.inr =>
          have HE : Hid (P = .deep) := by rw [Hid, HPd.out]; unfold finD; simp only; rw [hR]
          have G6 : Hid (w.grownBy w6 (some L)) := grown_trans S5.out.gr g6
          clear g6 HQs hR
          go_wp2_with fail
          exact ⟨rfl, .inr (.inr ⟨HE.out, rfl⟩), G6.out⟩

        have HE : Hid (P = .ok ⟨3, nm, on, sub⟩ (l.drop j6)) := by rw [Hid, HPd.out]; unfold finD; simp only; rw [hR]
        have z5 := (Array.getElem?_eq_some_iff.1 S5.out.x).1
        have S6 : Hid _ := S5.out.call s6 g6
        have hhN := S5.out.hN
        have O6 : Hid (RowB (w1.heap.size + 1) w6 (.slice a5 sub.len c5) sub) := by
          obtain ⟨ws, bk, R6⟩ := row
          exact ⟨ws, bk, R6.low (by omega)⟩
        clear hR row s6 g6 HQs z5 S5 HPd
        obtain ⟨Q, hQ⟩ : ∃ Q : World, Q = w6.setCell ⟨w1.heap.size, 3, none⟩ (.slice a5 sub.len c5) := ⟨_, rfl⟩
        have SQ : Hid (DeS w L (w1.heap.size) a c l j6 3 nm on (.slice a5 sub.len c5) Q) := by rw [Hid, hQ]; exact S6.out.put 3 _ rfl
        have OQ : Hid (RowB (w.heap.size + 1) Q (.slice a5 sub.len c5) sub) := by
          rw [Hid, hQ]
          obtain ⟨ws, bk, R6⟩ := O6.out.set (k := 3) (.slice a5 sub.len c5) (Nat.lt_succ_self w1.heap.size)
          exact ⟨ws, bk, R6.low (by omega)⟩
        have f3 := fun o => row_frozen S6.out.x o
        have y3 := fun o => row_cell S6.out.x o
        go_upto_region 19 with fail
        rw [← hQ]
        clear hQ f3 y3 S6 O6 hhN

        have D := def_done SQ.out.st SQ.out.gr SQ.out.res SQ.out.low OQ.out (.int .i64 3) (.string nm) (.string on) (.slice a5 sub.len c5)
        have HD9 : Hid _ := D
        have xA := fun o => row_cell SQ.out.x o
        have xR := fun o => row_cell SQ.out.res o
        have fR := fun o => row_frozen SQ.out.res o
        clear D
        go_wp2_with fail
        exact bodyPost_ret (v := .agg #[.int .i64 3, .string nm, .string on, .slice a5 sub.len c5]) (results_def _ _ w.heap.size _ rfl HD9.out.2.2.2 rfl) rfl ⟨.inl ⟨⟨3, nm, on, sub⟩, _, _, _, HE.out, rfl, HD9.out.2.1, HD9.out.1⟩, HD9.out.2.2.1⟩
    have e3 : (wd.toList == [102, 114, 97, 103, 109, 101, 110, 116]) = false := by simp [q3]
    have HE : Hid (P = .form) := by rw [Hid, HP2.out, if_neg q1, if_neg q2, if_neg q3]; rfl
    have HB : Hid (headB ⟨0, ⟨#[]⟩, ⟨#[]⟩, .nil⟩ = false) := by
      unfold Hid headB
      rw [if_neg (by decide), if_neg (by decide)]
    have HQh : Hid _ := impl_head ⟨0, ⟨#[]⟩, ⟨#[]⟩, .nil⟩ 0 none 0 w2 (Nat.zero_le _) (Nat.zero_le _)
    rw [HB.out] at HQh
    have xk := fun o => row_cell S2.out.x o
    have GX := S2.out.gr
    clear q1 q2 q3 HP2
    go_wp2_with fail
    refine Calls.mono HQh.out ?_
    clear xk
    rintro e w5 ⟨rfl, b5⟩
    have G5 : Hid (w.grownBy w5 (some L)) := grown_below GX b5
    clear b5 GX HQh S2 HB
    go_wp2_with fail
    exact ⟨rfl, .inr (.inl ⟨HE.out, rfl⟩), G5.out⟩
end Go.Proofs.YtlilfbcngncllaaGreatDoor
namespace Go.Proofs.YtlilfbcngncllaaGreatDoor
open Go.ChangeShapes Go.WideShapes Go.ChangeAt Go.RowKit
set_option linter.unusedVariables false

def DefK (W : World) : List De → List Value → List Nat → Prop
  | [], vs, bs => vs = [] ∧ bs = []
  | x :: r, vs, bs => ∃ V vr ws bk br, vs = [.int .i64 x.k, .string x.nm, .string x.on, V] ++ vr ∧ bs = (blk V ++ bk) ++ br ∧ W.ownsRow 0 84 6 V x.sels.len ws ∧ KidB W x.sels ws bk ∧ DefK W r vr br
theorem DefK.lt {W : World} : ∀ {l : List De} {vs : List Value} {bs : List Nat}, DefK W l vs bs → ∀ g ∈ bs, g < W.heap.size
  | [], _, _, ⟨_, h⟩, g, hg => by rw [h] at hg; simp at hg
  | x :: r, _, _, ⟨V, vr, ws, bk, br, _, hb, o, k, kr⟩, g, hg => by
    rw [hb] at hg
    simp only [List.mem_append] at hg
    rcases hg with (hg | hg) | hg
    · exact (World.ownsRow.lt o g (blk_mem hg)).2
    · exact KidB.lt k g hg
    · exact DefK.lt kr g hg
theorem DefK.keep {W W' : World} : ∀ {l : List De} {vs : List Value} {bs : List Nat}, DefK W l vs bs → (∀ g ∈ bs, W'.heap[g]? = W.heap[g]?) → DefK W' l vs bs
  | [], _, _, h, _ => h
  | x :: r, _, _, ⟨V, vr, ws, bk, br, hv, hb, o, k, kr⟩, hk => by
    refine ⟨V, vr, ws, bk, br, hv, hb, owns_same o fun g hg => hk g ?_, KidB.keep k fun g hg => hk g ?_, DefK.keep kr fun g hg => hk g ?_⟩
    all_goals rw [hb]; simp only [List.mem_append]
    · exact .inl (.inl (mem_blk hg))
    · exact .inl (.inr hg)
    · exact .inr hg
theorem DefK.snoc {W : World} {x : De} {V : Value} {ws : List Value} {bk : List Nat} (o : W.ownsRow 0 84 6 V x.sels.len ws) (k : KidB W x.sels ws bk) :
    ∀ (l : List De) {vs : List Value} {bs : List Nat}, DefK W l vs bs → DefK W (l ++ [x]) (vs ++ [.int .i64 x.k, .string x.nm, .string x.on, V]) (bs ++ (blk V ++ bk))
  | [], vs, bs, ⟨h1, h2⟩ => by
    subst h1; subst h2
    exact ⟨V, [], ws, bk, [], by simp, by simp, o, k, rfl, rfl⟩
  | y :: l, _, _, ⟨V', vr, ws', bk', br, hv, hb, o', k', kr⟩ => by
    subst hv; subst hb
    exact ⟨V', _, ws', bk', _, List.append_assoc _ _ _, List.append_assoc _ _ _, o', k', DefK.snoc o k l kr⟩
/-- A row of definitions. -/
structure DocK (base : Nat) (W : World) (V : Value) (l : List De) (vs : List Value) (bs : List Nat) : Prop where
  own : W.ownsRow base 47 4 V l.length vs
  k : DefK W l vs bs
  nd : (blk V ++ bs).Nodup
  inn : ∀ g ∈ bs, base ≤ g ∧ g < W.heap.size
theorem DocK.all {base : Nat} {W : World} {V : Value} {l : List De} {vs : List Value} {bs : List Nat} (h : DocK base W V l vs bs) : ∀ g ∈ blk V ++ bs, base ≤ g ∧ g < W.heap.size := fun g hg => by
  rcases List.mem_append.1 hg with hg | hg
  · exact World.ownsRow.lt h.own g (blk_mem hg)
  · exact h.inn g hg
theorem DocK.keep {base : Nat} {W W' : World} {V : Value} {l : List De} {vs : List Value} {bs : List Nat} (h : DocK base W V l vs bs) (hz : W.heap.size ≤ W'.heap.size) (hk : ∀ g ∈ blk V ++ bs, W'.heap[g]? = W.heap[g]?) : DocK base W' V l vs bs :=
  ⟨owns_same h.own fun g hg => hk g (List.mem_append_left _ (mem_blk hg)), h.k.keep fun g hg => hk g (List.mem_append_right _ hg), h.nd, fun g hg => ⟨(h.inn g hg).1, by have := (h.inn g hg).2; omega⟩⟩
theorem DocK.grow {base L : Nat} {W W' : World} {V : Value} {l : List De} {vs : List Value} {bs : List Nat} (h : DocK base W V l vs bs) (hg : W.grownBy W' (some L)) (hL : L < base) : DocK base W' V l vs bs :=
  h.keep hg.size fun g hm => grown_same hg (h.all g hm).2 (by have := (h.all g hm).1; omega)
theorem DocK.set {base N k : Nat} {W : World} {V : Value} {l : List De} {vs : List Value} {bs : List Nat} (h : DocK base W V l vs bs) (v : Value) (hN : ∀ g ∈ blk V ++ bs, g ≠ N) : DocK base (W.setCell ⟨N, k, none⟩ v) V l vs bs :=
  h.keep (((Below.refl N W).setCell (p := ⟨N, k, none⟩) (Nat.le_refl _) v).size) fun g hg => heap_setCell_other _ _ _ _ (hN g hg)
/-- A definition more. -/
theorem DocK.push {base N g8 n8 c8 : Nat} {W U W8 : World} {V Vn : Value} {l : List De} {x : De} {vs ws : List Value} {bs bk : List Nat} (R : DocK base W V l vs bs) (hlt : ∀ g ∈ blk V ++ bs, g < N) (hb : base ≤ N)
    (O : RowK N W Vn x.sels ws bk) (BU : Below W.heap.size W U) (gr : U.grownBy W8 V.ownBlock) (hat : V.ownBlock = some g8 ∨ g8 = U.heap.size)
    (ho : W8.ownsRow base 47 4 (.slice (some ⟨g8, 0, none⟩) n8 c8) (l ++ [x]).length (vs ++ [.int .i64 x.k, .string x.nm, .string x.on, Vn])) :
    DocK base W8 (.slice (some ⟨g8, 0, none⟩) n8 c8) (l ++ [x]) (vs ++ [.int .i64 x.k, .string x.nm, .string x.on, Vn]) (bs ++ (blk Vn ++ bk)) := by
  have hz := BU.size
  have hz8 := gr.size
  have kp : ∀ g, g < W.heap.size → V.ownBlock ≠ some g → W8.heap[g]? = W.heap[g]? := fun g h1 h2 => (gr.block g (by omega) (fun e => h2 e.symm)).trans (BU.block g h1)
  have hV : ∀ g, V.ownBlock = some g → g < N := fun g hg => hlt g (List.mem_append_left _ (mem_blk hg))
  have hnd := List.nodup_append.1 R.nd
  have kid : ∀ g ∈ bs, V.ownBlock ≠ some g := fun g hg e => hnd.2.2 g (mem_blk e) g hg rfl
  have new : ∀ g ∈ blk Vn ++ bk, V.ownBlock ≠ some g := fun g hg e => by have := hV g e; have := (O.all g hg).1; omega
  have O8 := O.keep (W' := W8) (by omega) fun g hg => kp g (O.all g hg).2 (new g hg)
  refine ⟨ho, DefK.snoc (owns_base O8.own fun g _ => Nat.zero_le _) O8.k l (R.k.keep fun g hg => kp g (R.inn g hg).2 (kid g hg)), ?_, fun g hg => ?_⟩
  · have e : blk (.slice (some ⟨g8, 0, none⟩) n8 c8) = [g8] := rfl
    rw [e, List.nodup_append]
    refine ⟨by simp, ?_, fun x hx y hy e => ?_⟩
    · rw [List.nodup_append]
      refine ⟨hnd.2.1, O.nd, fun x hx y hy e => ?_⟩
      subst e
      have := hlt x (List.mem_append_right _ hx)
      have := (O.all x hy).1
      omega
    · subst e
      simp only [List.mem_singleton] at hx
      subst hx
      rcases List.mem_append.1 hy with hy | hy
      · rcases hat with hat | hat
        · exact kid x hy hat
        · have := (R.inn x hy).2; omega
      · rcases hat with hat | hat
        · exact new x hy hat
        · have := (O.all x hy).2; omega
  · rcases List.mem_append.1 hg with hg | hg
    · have := R.inn g hg; exact ⟨this.1, by omega⟩
    · have := O.all g hg; exact ⟨by omega, by omega⟩
/-- The first definition of a row. -/
theorem DocK.first {base : Nat} {W : World} {x : De} {Vn : Value} {ws : List Value} {bk : List Nat} (O : RowK base W Vn x.sels ws bk) (hb : base ≤ W.heap.size) :
    DocK base (W.alloc (.cells #[.int .i64 x.k, .string x.nm, .string x.on, Vn] 47)) (.slice (some ⟨W.heap.size, 0, none⟩) 1 1) [x] [.int .i64 x.k, .string x.nm, .string x.on, Vn] (blk Vn ++ bk) := by
  have hB : Below W.heap.size W (W.alloc (.cells #[.int .i64 x.k, .string x.nm, .string x.on, Vn] 47)) := (Below.refl _ _).alloc (Nat.le_refl _) _
  have O8 := O.keep hB.size fun g hg => hB.block g (O.all g hg).2
  refine ⟨⟨rfl, .inr ⟨W.heap.size, 1, _, rfl, hb, heap_alloc_new _ _, Nat.le_refl _, by unfold maxLen; omega, rfl, rfl⟩⟩, ?_, ?_, fun g hg => O8.all g hg⟩
  · have := DefK.snoc (x := x) (owns_base O8.own fun g _ => Nat.zero_le _) O8.k [] (vs := []) (bs := []) ⟨rfl, rfl⟩
    simpa using this
  · have e : blk (.slice (some ⟨W.heap.size, 0, none⟩) 1 1) = [W.heap.size] := rfl
    rw [e, List.nodup_append]
    refine ⟨by simp, O.nd, fun x hx y hy e => ?_⟩
    subst e
    simp only [List.mem_singleton] at hx
    have := (O.all x hy).2
    omega
/-- Definitions up to the end of the tokens. -/
def PR.preD (g : List De) : PR (List De) → PR (List De)
  | .ok s r => .ok (g ++ s) r
  | .form => .form
  | .deep => .deep
/-- What is left behind a definition: nothing, or definitions. -/
def pTl (l : List Tk) : PR (List De) := if l.length = 0 then .ok [] l else pDoc l
theorem pDoc_ok {l r : List Tk} {x : De} (h : pDef l = .ok x r) (g : List De) : (pDoc l).preD g = (pTl r).preD (g ++ [x]) := by
  rw [pDoc_eq, h]
  unfold pTl
  cases r with
  | nil => simp [PR.preD]
  | cons t q =>
    simp only
    rw [if_neg (by simp)]
    cases pDoc (t :: q) with
    | form => rfl
    | deep => rfl
    | ok s r2 => simp [PR.preD]
theorem pDoc_form {l : List Tk} (h : pDef l = .form) (g : List De) : (pDoc l).preD g = .form := by rw [pDoc_eq, h]; rfl
theorem pDoc_deep {l : List Tk} (h : pDef l = .deep) (g : List De) : (pDoc l).preD g = .deep := by rw [pDoc_eq, h]; rfl
theorem preD_nil (R : PR (List De)) : R.preD [] = R := by cases R <;> rfl
end Go.Proofs.YtlilfbcngncllaaGreatDoor
