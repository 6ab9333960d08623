/- The program's reader of documents: a spread, or fields on a type. -/
import Derived.Test.YtlilfbcngncllaaGreatDoorPdRows
namespace Go.Proofs.YtlilfbcngncllaaGreatDoor
open Go.ChangeShapes Go.WideShapes Go.ChangeAt Go.RowKit
set_option linter.unusedVariables false

/-- Behind '...'. -/
def pSpr (l : List Tk) (i : Nat) : Option (Hd × Bool × List Tk) :=
  if (nmI l i).toList = [] then (pDirs (l.drop i)).map fun x => (⟨3, ⟨#[]⟩, ⟨#[]⟩, [], x.1⟩, true, x.2)
  else if (nmI l i).toList = [111, 110] then
    (if (nmI l (i + 1)).toList = [] then none else (pDirs (l.drop (i + 1 + 1))).map fun x => (⟨3, ⟨#[]⟩, nmI l (i + 1), [], x.1⟩, true, x.2))
  else (pDirs (l.drop (i + 1))).map fun x => (⟨2, ⟨#[]⟩, nmI l i, [], x.1⟩, false, x.2)
/-- A field behind its names: arguments, directives, whether a set comes. -/
def pFlA (l : List Tk) (al nm : ByteArray) (i : Nat) : Option (Hd × Bool × List Tk) :=
  ((if tkE (nxT l i) ⟨4, 0, ⟨#[40]⟩⟩ = true then pArgs1 (l.drop (i + 1)) else some ([], l.drop i)) : Option (List Ar × List Tk)).bind fun x => (pDirs x.2).map fun y => (⟨1, al, nm, x.1, y.1⟩, atM [123] y.2, y.2)
def pFld (l : List Tk) (i : Nat) : Option (Hd × Bool × List Tk) :=
  if (nmI l i).toList = [] then none
  else if tkE (nxT l (i + 1)) ⟨4, 0, ⟨#[58]⟩⟩ = true then
    (if (nmI l (i + 1 + 1)).toList = [] then none else pFlA l (nmI l i) (nmI l (i + 1 + 1)) (i + 1 + 1 + 1))
  else pFlA l ⟨#[]⟩ (nmI l i) (i + 1)
theorem at_lit {l : List Tk} (h : TkG l) (b : Array UInt8) (i : Nat) : atM b.toList (l.drop i) = tkE (nxT l i) ⟨4, 0, ⟨b⟩⟩ := by rw [← at_tk h, tl_lit b]
theorem pArg_close {l : List Tk} (h : atM [41] l = true) : pArg l = none := by
  cases l with
  | nil => cases h
  | cons t r =>
    unfold atM mkB at h
    simp only [Bool.and_eq_true, beq_iff_eq] at h
    unfold pArg nmAt
    simp only
    rw [if_neg (by rw [h.1]; decide)]
theorem pArgs_some (m : List Tk) : (match pArgs m with | some (a :: bs, r) => some (a :: bs, r) | _ => none) = pArgs1 m := by
  rw [pArgs_eq]
  unfold pArgs1
  by_cases hm : atM [41] m = true
  · rw [if_pos hm, pArg_close hm]
  · rw [if_neg hm]
    cases pArg m with
    | none => rfl
    | some x =>
      obtain ⟨a, r⟩ := x
      simp only
      cases pArgs r with
      | none => rfl
      | some y => rfl
theorem pArgsAny_at {l : List Tk} (h : TkG l) (i : Nat) : pArgsAny (l.drop i) = if tkE (nxT l i) ⟨4, 0, ⟨#[40]⟩⟩ = true then pArgs1 (l.drop (i + 1)) else some ([], l.drop i) := by
  unfold pArgsAny
  rw [show atM [40] (l.drop i) = _ from at_lit h #[40] i, drop2]
  by_cases h0 : tkE (nxT l i) ⟨4, 0, ⟨#[40]⟩⟩ = true
  · rw [if_pos h0, if_pos h0]; exact pArgs_some _
  · rw [if_neg h0, if_neg h0]
theorem pHead_at {l : List Tk} (h : TkG l) (i : Nat) : pHead (l.drop i) = if tkE (nxT l i) ⟨4, 0, ⟨#[46, 46, 46]⟩⟩ = true then pSpr l (i + 1) else pFld l i := by
  unfold pHead
  rw [show atM [46, 46, 46] (l.drop i) = _ from at_lit h #[46, 46, 46] i]
  by_cases h0 : tkE (nxT l i) ⟨4, 0, ⟨#[46, 46, 46]⟩⟩ = true
  · rw [if_pos h0, if_pos h0]
    unfold pSpr
    simp only [drop2]
    rw [nm_at h, nm_at h]
    by_cases h1 : (nmI l (i + 1)).toList = []
    · rw [if_pos h1, if_pos h1]
    · rw [if_neg h1, if_neg h1]
      simp only
      by_cases h2 : (nmI l (i + 1)).toList = [111, 110]
      · rw [if_pos h2, if_pos h2]
        by_cases h3 : (nmI l (i + 2)).toList = []
        · rw [if_pos h3, if_pos (show (nmI l (i + 1 + 1)).toList = [] from h3)]
        · rw [if_neg h3, if_neg (show ¬ (nmI l (i + 1 + 1)).toList = [] from h3)]
      · rw [if_neg h2, if_neg h2]
  · rw [if_neg h0, if_neg h0]
    unfold pFld
    simp only [drop2]
    rw [nm_at h, nm_at h]
    by_cases h1 : (nmI l i).toList = []
    · rw [if_pos h1, if_pos h1]
    · rw [if_neg h1, if_neg h1]
      simp only
      rw [show atM [58] (l.drop (i + 1)) = _ from at_lit h #[58] (i + 1)]
      by_cases h2 : tkE (nxT l (i + 1)) ⟨4, 0, ⟨#[58]⟩⟩ = true
      · rw [if_pos h2, if_pos h2]
        by_cases h3 : (nmI l (i + 2)).toList = []
        · rw [if_pos h3, if_pos (show (nmI l (i + 1 + 1)).toList = [] from h3)]
        · rw [if_neg h3, if_neg (show ¬ (nmI l (i + 1 + 1)).toList = [] from h3)]
          simp only
          rw [pArgsAny_at h]
          rfl
      · rw [if_neg h2, if_neg h2, pArgsAny_at h]
        rfl
/-- A selection behind its head. -/
def fin (d : Nat) : Option (Hd × Bool × List Tk) → PR (Hd × Sels)
  | none => .form
  | some (h, false, r) => .ok (h, .nil) r
  | some (h, true, r) => (match pSet d r with | .ok s r1 => .ok (h, s) r1 | .form => .form | .deep => .deep)
theorem pSel_at {l : List Tk} (h : TkG l) (d i : Nat) : pSel d (l.drop i) = if tkE (nxT l i) ⟨4, 0, ⟨#[46, 46, 46]⟩⟩ = true then fin (d - 1) (pSpr l (i + 1)) else fin (d - 1) (pFld l i) := by
  unfold pSel
  rw [pHead_at h]
  by_cases h0 : tkE (nxT l i) ⟨4, 0, ⟨#[46, 46, 46]⟩⟩ = true
  · rw [if_pos h0, if_pos h0]; rfl
  · rw [if_neg h0, if_neg h0]; rfl
/-- A set behind its first mark: one selection at least. -/
def pL1 (d : Nat) (l : List Tk) : PR Sels :=
  match pSel d l with
  | .ok (h, s) r => (match pL d r with | .ok rest r2 => .ok (.cons h s rest) r2 | .form => .form | .deep => .deep)
  | .form => .form
  | .deep => .deep
theorem pSel_close {l : List Tk} {d : Nat} (h : atM [125] l = true) : pSel d l = .form := by
  cases l with
  | nil => cases h
  | cons t r =>
    have h' := h
    unfold atM mkB at h'
    simp only [Bool.and_eq_true, beq_iff_eq] at h'
    unfold pSel pHead
    rw [if_neg]
    · unfold nmAt
      simp only
      rw [if_neg (by rw [h'.1]; decide)]
    · unfold atM mkB
      intro e
      simp only [Bool.and_eq_true, beq_iff_eq] at e
      rw [h'.2] at e
      exact absurd e.2 (by decide)
theorem pSet_at {l : List Tk} (h : TkG l) (d i : Nat) : pSet d (l.drop i) = if tkE (nxT l i) ⟨4, 0, ⟨#[123]⟩⟩ = true then (if d = 0 then .deep else pL1 d (l.drop (i + 1))) else .form := by
  unfold pSet
  rw [show atM [123] (l.drop i) = _ from at_lit h #[123] i, drop2]
  by_cases h0 : tkE (nxT l i) ⟨4, 0, ⟨#[123]⟩⟩ = true
  · rw [if_pos h0, if_pos h0]
    by_cases hd : d = 0
    · rw [if_pos hd, if_pos hd]
    · rw [if_neg hd, if_neg hd]
      generalize l.drop (i + 1) = m
      rw [pL_eq]
      unfold pL1
      by_cases hm : atM [125] m = true
      · rw [if_pos hm, pSel_close hm]
      · rw [if_neg hm]
        cases pSel d m with
        | form => rfl
        | deep => rfl
        | ok x r =>
          obtain ⟨hd2, s⟩ := x
          simp only
          cases pL d r with
          | form => rfl
          | deep => rfl
          | ok y r2 => rfl
  · rw [if_neg h0, if_neg h0]
theorem pL_end {l : List Tk} (h : TkG l) {d k : Nat} (hk : tkE (nxT l k) ⟨4, 0, ⟨#[125]⟩⟩ = true) : pL d (l.drop k) = .ok .nil (l.drop (k + 1)) := by
  rw [pL_eq, show atM [125] (l.drop k) = _ from at_lit h #[125] k, if_pos hk, drop2]
theorem pL_go {l : List Tk} (h : TkG l) {d k : Nat} (hk : tkE (nxT l k) ⟨4, 0, ⟨#[125]⟩⟩ = false) : pL d (l.drop k) = pL1 d (l.drop k) := by
  rw [pL_eq, show atM [125] (l.drop k) = _ from at_lit h #[125] k, if_neg (by rw [hk]; simp)]
  rfl
/-- What is ahead of what is read. -/
def PR.pre (g : List (Hd × Sels)) : PR Sels → PR Sels
  | .ok s r => .ok (app g s) r
  | .form => .form
  | .deep => .deep
theorem pL1_step {l r : List Tk} {d : Nat} {h : Hd} {s : Sels} (hs : pSel d l = .ok (h, s) r) (g : List (Hd × Sels)) : (pL1 d l).pre g = (pL d r).pre (g ++ [(h, s)]) := by
  unfold pL1
  rw [hs]
  simp only
  cases pL d r with
  | form => rfl
  | deep => rfl
  | ok x r2 => simp only [PR.pre]; rw [app_snoc]
/-- A fault of depth. -/
def deepF (e : Ending) : Prop := e = .panicked [{ v := .iface 53 (.agg #[.int .i64 8]), recovered := false }]
/-- A set is told, or a fault. -/
def SetP (ex : Array Value) (L : Nat) (a : Option Addr) (c : Nat) (l : List Tk) (R : PR Sels) (w : World) (e : Ending) (w' : World) : Prop :=
  ((∃ s j a' c', R = .ok s (l.drop j) ∧ e = .returned (.slice a' s.len c') ∧ RowB w.heap.size w' (.slice a' s.len c') s ∧ RdSt 37 ex w' L a c l j) ∨ (R = .form ∧ badF e) ∨ (R = .deep ∧ deepF e)) ∧ w.grownBy w' (some L)
/-- A selection is told, or a fault. -/
def OneP (ex : Array Value) (L : Nat) (a : Option Addr) (c : Nat) (l : List Tk) (R : PR (Hd × Sels)) (w : World) (e : Ending) (w' : World) : Prop :=
  ((∃ h sub j a3 c3 a4 c4 a5 c5, R = .ok (h, sub) (l.drop j) ∧ e = .returned (.agg #[.int .i64 h.k, .string h.al, .string h.nm, .slice a3 h.args.length c3, .slice a4 h.dirs.length c4, .slice a5 sub.len c5]) ∧
    OneB w.heap.size w' h sub (.slice a3 h.args.length c3) (.slice a4 h.dirs.length c4) (.slice a5 sub.len c5) ∧ RdSt 37 ex w' L a c l j) ∨ (R = .form ∧ badF e) ∨ (R = .deep ∧ deepF e)) ∧ w.grownBy w' (some L)
def SetOk (d : Nat) : Prop := ∀ (s L c i : Nat) (a : Option Addr) (l : List Tk) (w : World), s + d = 7 → RdSt 37 #[.int .i64 s] w L a c l i → TkG l →
    Calls Tryz.prog 42 #[.pointer (some ⟨L, 0, none⟩)] w (SetP #[.int .i64 s] L a c l (pSet d (l.drop i)) w)
theorem OneK.make {lo m1 m2 : Nat} {W : World} {h : Hd} {sub : Sels} {va vd vsub : Value} {ws : List Value} {bk : List Nat} (a : W.ownsRow lo 103 4 va h.args.length (arVs h.args)) (ha : ∀ g, va.ownBlock = some g → g < m1)
    (d : W.ownsRow m1 105 4 vd h.dirs.length (diVs h.dirs)) (hd : ∀ g, vd.ownBlock = some g → g < m2) (R : RowK m2 W vsub sub ws bk) (h1 : lo ≤ m1) (h2 : m1 ≤ m2) : OneK lo W h sub va vd vsub ws bk := by
  have a1 := World.ownsRow.lt a
  have d1 := World.ownsRow.lt d
  have r1 := R.all
  refine ⟨owns_base a fun g _ => Nat.zero_le _, owns_base d fun g _ => Nat.zero_le _, owns_base R.own fun g _ => Nat.zero_le _, R.k, ?_, fun g hg => ?_⟩
  · rw [List.nodup_append]
    refine ⟨blk_nd _, ?_, fun x hx y hy e => ?_⟩
    · rw [List.nodup_append]
      refine ⟨blk_nd _, R.nd, fun x hx y hy e => ?_⟩
      subst e
      have := hd x (blk_mem hx)
      have := (r1 x hy).1
      omega
    · subst e
      have := ha x (blk_mem hx)
      rcases List.mem_append.1 hy with hy | hy
      · have := (d1 x (blk_mem hy)).1; omega
      · have := (r1 x hy).1; omega
  · rcases List.mem_append.1 hg with hg | hg
    · exact a1 g (blk_mem hg)
    · rcases List.mem_append.1 hg with hg | hg
      · have := d1 g (blk_mem hg); omega
      · have := r1 g hg; omega
end Go.Proofs.YtlilfbcngncllaaGreatDoor
namespace Go.Proofs.YtlilfbcngncllaaGreatDoor
open Go.ChangeShapes Go.WideShapes Go.ChangeAt Go.RowKit
set_option linter.unusedVariables false

structure SlS (ex : Array Value) (w : World) (L N : Nat) (a : Option Addr) (c : Nat) (l : List Tk) (j : Nat) (kd : Int) (al nm : ByteArray) (va vd vs : Value) (W : World) : Prop where
  st : RdSt 37 ex W L a c l j
  gr : w.grownBy W (some L)
  res : W.heap[w.heap.size]? = some (.cells #[.int .i64 0, .string ⟨#[]⟩, .string ⟨#[]⟩, .slice none 0 0, .slice none 0 0, .slice none 0 0] 84 (0, 0))
  x : W.heap[N]? = some (.cells #[.int .i64 kd, .string al, .string nm, va, vd, vs] 84 (0, 0))
  low : L < w.heap.size
  hN : w.heap.size < N
theorem SlS.call {ex : Array Value} {w : World} {L N : Nat} {a : Option Addr} {c : Nat} {l : List Tk} {j : Nat} {kd : Int} {al nm : ByteArray} {va vd vs : Value} {W : World} {W' : World} {j' : Nat} (h : SlS ex w L N a c l j kd al nm va vd vs W) (hr : RdSt 37 ex W' L a c l j') (hg : W.grownBy W' (some L)) : SlS ex w L N a c l j' kd al nm va vd vs W' :=
  ⟨hr, grown_trans h.gr hg, grown_keeps h.res (Array.getElem?_eq_some_iff.1 h.res).1 hg (by have := h.low; omega), grown_keeps h.x (Array.getElem?_eq_some_iff.1 h.x).1 hg (by have := h.low; have := h.hN; omega), h.low, h.hN⟩
theorem SlS.put {ex : Array Value} {w : World} {L N : Nat} {a : Option Addr} {c : Nat} {l : List Tk} {j : Nat} {kd : Int} {al nm : ByteArray} {va vd vs : Value} {W : World} {kd' : Int} {al' nm' : ByteArray} {va' vd' vs' : Value} (h : SlS ex w L N a c l j kd al nm va vd vs W) (k : Nat) (v : Value) (e : (#[.int .i64 kd, .string al, .string nm, va, vd, vs] : Array Value).setIfInBounds k v = #[.int .i64 kd', .string al', .string nm', va', vd', vs']) : SlS ex w L N a c l j kd' al' nm' va' vd' vs' (W.setCell ⟨N, k, none⟩ v) :=
  ⟨h.st.keep fun g hg => heap_setCell_other _ _ _ _ (by have := h.low; have := h.hN; show g ≠ N; omega), grown_new h.gr (by have := h.hN; omega) _, (heap_setCell_other _ _ _ _ (by have := h.hN; show w.heap.size ≠ N; omega)).trans h.res, by have := row_set h.x k v; rw [e] at this; exact this, h.low, h.hN⟩
/-- The two lists of a head, behind block N. -/
def Own2 (W : World) (N : Nat) (us : List Ar) (va : Value) (ds : List Di) (vd : Value) : Prop :=
  ∃ m1, N < m1 ∧ m1 ≤ W.heap.size ∧ W.ownsRow (N + 1) 103 4 va us.length (arVs us) ∧ (∀ g, va.ownBlock = some g → g < m1) ∧ W.ownsRow m1 105 4 vd ds.length (diVs ds)
theorem Own2.keep {W W' : World} {N : Nat} {us : List Ar} {va : Value} {ds : List Di} {vd : Value} (h : Own2 W N us va ds vd) (hz : W.heap.size ≤ W'.heap.size) (hk : ∀ g, N < g → g < W.heap.size → W'.heap[g]? = W.heap[g]?) : Own2 W' N us va ds vd := by
  obtain ⟨m1, h1, h0, h2, h3, h4⟩ := h
  exact ⟨m1, h1, by omega, owns_same h2 fun g hg => hk g (by have := (World.ownsRow.lt h2 g hg).1; omega) (World.ownsRow.lt h2 g hg).2, h3, owns_same h4 fun g hg => hk g (by have := (World.ownsRow.lt h4 g hg).1; omega) (World.ownsRow.lt h4 g hg).2⟩
theorem Own2.make {W0 W : World} {N L : Nat} {us : List Ar} {va : Value} {ds : List Di} {vd : Value} (h : W0.ownsRow (N + 1) 103 4 va us.length (arVs us)) (hg : W0.grownBy W (some L)) (hL : L < N) (hN : N < W0.heap.size) (d : W.ownsRow W0.heap.size 105 4 vd ds.length (diVs ds)) : Own2 W N us va ds vd :=
  ⟨W0.heap.size, hN, hg.size, own_grown h hg (by omega), fun g hq => (World.ownsRow.lt h g hq).2, d⟩
theorem Own2.grow {W W' : World} {N L : Nat} {us : List Ar} {va : Value} {ds : List Di} {vd : Value} (h : Own2 W N us va ds vd) (hg : W.grownBy W' (some L)) (hL : L < N) : Own2 W' N us va ds vd := h.keep hg.size fun g h1 h2 => grown_same hg h2 (by omega)
theorem Own2.set {W : World} {N M k : Nat} {us : List Ar} {va : Value} {ds : List Di} {vd : Value} (h : Own2 W N us va ds vd) (v : Value) (hM : M ≤ N) : Own2 (W.setCell ⟨M, k, none⟩ v) N us va ds vd :=
  h.keep (((Below.refl M W).setCell (p := ⟨M, k, none⟩) (Nat.le_refl _) v).size) fun g h1 h2 => heap_setCell_other _ _ _ _ (by show g ≠ M; omega)
theorem Own2.one {Wm Z : World} {N lo : Nat} {h : Hd} {sub : Sels} {va vd vs : Value} {ws : List Value} {bk : List Nat} (o : Own2 Wm N h.args va h.dirs vd) (R : RowK Wm.heap.size Z vs sub ws bk) (hz : Wm.heap.size ≤ Z.heap.size) (hk : ∀ g, N < g → g < Wm.heap.size → Z.heap[g]? = Wm.heap[g]?) (hl : lo ≤ N + 1) : OneB lo Z h sub va vd vs := by
  obtain ⟨m1, h1, h0, h2, h3, h4⟩ := o
  have hd : ∀ g, vd.ownBlock = some g → g < Wm.heap.size := fun g hg => (World.ownsRow.lt h4 g hg).2
  obtain ⟨m2, g1, g0, g2, g3, g4⟩ := Own2.keep ⟨m1, h1, h0, h2, h3, h4⟩ hz hk
  have h2' := owns_same (w' := Z) h2 fun g hg => hk g (by have := (World.ownsRow.lt h2 g hg).1; omega) (World.ownsRow.lt h2 g hg).2
  have h4' := owns_same (w' := Z) h4 fun g hg => hk g (by have := (World.ownsRow.lt h4 g hg).1; omega) (World.ownsRow.lt h4 g hg).2
  exact ⟨ws, bk, OneK.make (owns_base h2' fun g hg => by have := (World.ownsRow.lt h2' g hg).1; omega) h3 h4' hd R (by omega) h0⟩
theorem nm_adv {l : List Tk} (h : TkG l) (i : Nat) : adv (decide ((nxT l i).k = 1)) i = if (nmI l i).toList = [] then i else i + 1 := by
  unfold nmI adv
  by_cases hk : (nxT l i).k = 1
  · have hi : i < l.length := by
      refine Nat.lt_of_not_le fun hn => ?_
      rw [nx_end hn] at hk
      cases hk
    simp only [hk, if_true, decide_true]
    rw [if_neg ((tokB_ok h.ok _ (nx_mem hi)).1 hk)]
  · rw [decide_eq_false hk, if_neg hk, if_neg (show ¬ (false = true) by decide), if_pos (by rw [ByteArray.toList_eq])]
theorem OneB.set {base N k : Nat} {W : World} {h : Hd} {sub : Sels} {va vd vs : Value} (O : OneB base W h sub va vd vs) (v : Value) (hN : N < base) : OneB base (W.setCell ⟨N, k, none⟩ v) h sub va vd vs := by
  obtain ⟨ws, bk, O⟩ := O
  exact ⟨ws, bk, O.keep (((Below.refl N W).setCell (p := ⟨N, k, none⟩) (Nat.le_refl _) v).size) fun g hg => heap_setCell_other _ _ _ _ (by have := (O.inn g hg).1; show g ≠ N; omega)⟩
def put6w (W : World) (b : Nat) (v0 v1 v2 v3 v4 v5 : Value) : World := (((((W.setCell ⟨b, 0, none⟩ v0).setCell ⟨b, 1, none⟩ v1).setCell ⟨b, 2, none⟩ v2).setCell ⟨b, 3, none⟩ v3).setCell ⟨b, 4, none⟩ v4).setCell ⟨b, 5, none⟩ v5
/-- The selection is told. -/
theorem SlS.done {ex : Array Value} {w : World} {L N : Nat} {a : Option Addr} {c : Nat} {l : List Tk} {j : Nat} {kd : Int} {al nm : ByteArray} {va vd vs : Value} {W : World} {h : Hd} {sub : Sels} {v3 v4 v5 : Value} (S : SlS ex w L N a c l j kd al nm va vd vs W) (O : OneB (N + 1) W h sub v3 v4 v5) (x0 x1 x2 x3 x4 x5 : Value) :
    RdSt 37 ex (put6w W w.heap.size x0 x1 x2 x3 x4 x5) L a c l j ∧ OneB w.heap.size (put6w W w.heap.size x0 x1 x2 x3 x4 x5) h sub v3 v4 v5 ∧ w.grownBy (put6w W w.heap.size x0 x1 x2 x3 x4 x5) (some L) ∧
      (put6w W w.heap.size x0 x1 x2 x3 x4 x5).heap[w.heap.size]? = some (.cells #[x0, x1, x2, x3, x4, x5] 84 (0, 0)) := by
  have low := S.low
  have hN := S.hN
  refine ⟨S.st.keep fun g hg => ?_, ?_, ?_, ?_⟩
  · unfold put6w
    rw [heap_setCell_other _ _ _ _ (by show g ≠ w.heap.size; omega), heap_setCell_other _ _ _ _ (by show g ≠ w.heap.size; omega), heap_setCell_other _ _ _ _ (by show g ≠ w.heap.size; omega), heap_setCell_other _ _ _ _ (by show g ≠ w.heap.size; omega), heap_setCell_other _ _ _ _ (by show g ≠ w.heap.size; omega), heap_setCell_other _ _ _ _ (by show g ≠ w.heap.size; omega)]
  · obtain ⟨ws, bk, O6⟩ := (((((O.set (k := 0) x0 (N := w.heap.size) (by omega)).set (k := 1) x1 (N := w.heap.size) (by omega)).set (k := 2) x2 (N := w.heap.size) (by omega)).set (k := 3) x3 (N := w.heap.size) (by omega)).set (k := 4) x4 (N := w.heap.size) (by omega)).set (k := 5) x5 (N := w.heap.size) (by omega)
    exact ⟨ws, bk, O6.a, O6.d, O6.s, O6.k, O6.nd, fun g hg => ⟨by have := (O6.inn g hg).1; omega, (O6.inn g hg).2⟩⟩
  · exact grown_new (grown_new (grown_new (grown_new (grown_new (grown_new S.gr (Nat.le_refl _) _) (Nat.le_refl _) _) (Nat.le_refl _) _) (Nat.le_refl _) _) (Nat.le_refl _) _) (Nat.le_refl _) _
  · exact row_set (row_set (row_set (row_set (row_set (row_set S.res 0 x0) 1 x1) 2 x2) 3 x3) 4 x4) 5 x5
end Go.Proofs.YtlilfbcngncllaaGreatDoor
namespace Go.Proofs.YtlilfbcngncllaaGreatDoor
open Go.ChangeShapes Go.WideShapes Go.ChangeAt Go.RowKit
set_option linter.unusedVariables false

theorem results_spread (tmps : Array Value) (W : World) (N : Nat) (cs : Array Value) (h2 : tmps.getD 2 undef = .pointer (some ⟨N, 0, none⟩)) (hrow : W.heap[N]? = some (.cells cs 84 (0, 0))) (hsz : cs.size = 6) :
    (results Tryz.f93 tmps).run Tryz.prog W = .ok (.agg cs) W := by
  have c39 : (Tryz.prog.info? 84).map (·.size) = some 6 := by kernel_rfl
  exact results_cell_row Tryz.results93 tmps W N 84 cs (0, 0) _ h2 hrow Tryz.underlying84 rfl (by rw [hsz]; exact c39)
set_option maxHeartbeats 8000000 in
theorem pd_spread (d : Nat) (hset : SetOk d) (s L c i : Nat) (a : Option Addr) (l : List Tk) (w : World) (hsd : s + d = 7) (h : RdSt 37 #[.int .i64 s] w L a c l i) (hl : TkG l) :
    Calls Tryz.prog 93 #[.pointer (some ⟨L, 0, none⟩)] w (OneP #[.int .i64 s] L a c l (fin d (pSpr l i)) w) := by
  obtain ⟨P, HP⟩ : ∃ P, Hid (P = fin d (pSpr l i)) := ⟨_, rfl⟩
  rw [← HP.out]
  have HG : Hid _ := hl
  have HSET : Hid _ := hset
  obtain ⟨V0, hV0⟩ : ∃ V, V = w.alloc (.cells #[.int .i64 0, .string ⟨#[]⟩, .string ⟨#[]⟩, .slice none 0 0, .slice none 0 0, .slice none 0 0] 84) := ⟨_, rfl⟩
  have z0 : V0.heap.size = w.heap.size + 1 := by rw [hV0]; simp
  obtain ⟨V, hV⟩ : ∃ V, V = V0.alloc (.cells #[.int .i64 3, .string ⟨#[]⟩, .string ⟨#[]⟩, .slice none 0 0, .slice none 0 0, .slice none 0 0] 84) := ⟨_, rfl⟩
  have B0 : Below w.heap.size w V0 := by rw [hV0]; exact (Below.refl _ _).alloc (Nat.le_refl _) _
  have B1 : Below V0.heap.size V0 V := by rw [hV]; exact (Below.refl _ _).alloc (Nat.le_refl _) _
  have BV : Below w.heap.size w V := B0.trans (B1.mono (by omega))
  have SV : Hid (SlS #[.int .i64 s] w L (w.heap.size + 1) a c l i 3 ⟨#[]⟩ ⟨#[]⟩ (.slice none 0 0) (.slice none 0 0) (.slice none 0 0) V) := by
    refine ⟨h.below BV, grown_below (grown_refl w _) BV, ?_, ?_, h.lt, Nat.lt_succ_self _⟩
    · rw [B1.block _ (by omega), hV0]; exact heap_alloc_new _ _
    · rw [hV, ← z0]; exact heap_alloc_new _ _
  have HQ : Hid _ := rd_nameIf 37 #[.int .i64 s] L c i a l V SV.out.st hl.len
  have HA : Hid _ := nm_adv hl i
  have HV0 : Hid (V0 = _) := hV0
  clear h hl hV0 B0 B1 BV hset
  go_enter Tryz.func93, Tryz.ntmps93
  go_upto_region 2 with fail
  rw [← HV0.out, ← hV]
  clear hV HV0 z0
  go_wp2_with fail
  refine Calls.mono HQ.out ?_
  rintro e w1 ⟨rfl, s1, g1⟩
  rw [HA.out] at s1
  have S1 : Hid _ := SV.out.call s1 g1
  clear s1 g1 HQ SV HA
  unfold pSpr at HP
  obtain ⟨nm, hnm⟩ : ∃ z, z = nmI l i := ⟨_, rfl⟩
  rw [← hnm] at HP S1 ⊢
  clear hnm
  by_cases e1 : nm.toList = []
  · have SX : Hid (SlS #[.int .i64 s] w L (w.heap.size + 1) a c l i 3 ⟨#[]⟩ ⟨#[]⟩ (.slice none 0 0) (.slice none 0 0) (.slice none 0 0) w1) := by have := S1.out; rw [if_pos e1] at this; exact this
    have HPd : Hid (P = fin d ((pDirs (l.drop i)).map fun x => (⟨3, ⟨#[]⟩, ⟨#[]⟩, [], x.1⟩, true, x.2))) := by rw [Hid, HP.out, if_pos e1]
    have e1' : (nm.toList == []) = true := by simp [e1]
    clear HP e1 S1
    obtain ⟨us, hus⟩ : ∃ us : List Ar, us = [] := ⟨_, rfl⟩
    have HQd : Hid _ := pd_dirs #[.int .i64 s] L c (i) a l w1 SX.out.st HG.out
    go_wp2_with fail
    refine Calls.mono HQd.out ?_
    rintro e w5 ⟨⟨ds, j5, a4, c4, hx, rfl, own, s5⟩ | ⟨hx, rfl⟩, g5⟩
    case inr =>
      have HE : Hid (P = .form) := by rw [Hid, HPd.out, hx]; rfl
      have G5 : Hid (w.grownBy w5 (some L)) := grown_trans SX.out.gr g5
      clear g5 HQd hx SX
      go_wp2_with fail
      exact ⟨rfl, .inr (.inl ⟨HE.out, rfl⟩), G5.out⟩
    have HP5 : Hid (P = fin d (some (⟨3, ⟨#[]⟩, ⟨#[]⟩, us, ds⟩, true, l.drop j5))) := by rw [Hid, HPd.out, hx, hus]; rfl
    have S5 : Hid _ := SX.out.call s5 g5
    have O5 : Hid (Own2 w5 (w.heap.size + 1) us (.slice none 0 0) ds (.slice a4 ds.length c4)) := Own2.make (W0 := w1) ⟨by rw [hus]; rfl, .inl ⟨rfl, by rw [hus]; rfl⟩⟩ g5 (by have := SX.out.low; omega) (Array.getElem?_eq_some_iff.1 SX.out.x).1 own
    clear hx own s5 g5 HQd SX HPd
    obtain ⟨Y, hY⟩ : ∃ Y : World, Y = w5.setCell ⟨w.heap.size + 1, 4, none⟩ (.slice a4 ds.length c4) := ⟨_, rfl⟩
    have SY : Hid (SlS #[.int .i64 s] w L (w.heap.size + 1) a c l j5 3 ⟨#[]⟩ ⟨#[]⟩ (.slice none 0 0) (.slice a4 ds.length c4) (.slice none 0 0) Y) := by rw [Hid, hY]; exact S5.out.put 4 _ rfl
    have OY : Hid (Own2 Y (w.heap.size + 1) us (.slice none 0 0) ds (.slice a4 ds.length c4)) := by rw [Hid, hY]; exact O5.out.set _ (Nat.le_refl _)
    have f3 := fun o => row_frozen S5.out.x o
    have y3 := fun o => row_cell S5.out.x o
    go_upto_region 10 with fail
    rw [← hY]
    clear hY f3 y3 S5 O5
    subst hus

    have HQs : Hid _ := HSET.out s L c j5 a l Y hsd SY.out.st HG.out
    have z6 := (Array.getElem?_eq_some_iff.1 SY.out.x).1
    have xk := fun o => row_cell SY.out.x o
    go_wp2_with fail
    refine Calls.mono HQs.out ?_
    clear xk
    rintro e w6 ⟨⟨sub, j6, a5, c5, hR, rfl, row, s6⟩ | ⟨hR, rfl⟩ | ⟨hR, rfl⟩, g6⟩
    case inr.inl =>
      have HE : Hid (P = .form) := by rw [Hid, HP5.out]; unfold fin; simp only; rw [hR]
      have G6 : Hid (w.grownBy w6 (some L)) := grown_trans SY.out.gr g6
      clear g6 HQs hR
      go_wp2_with fail
      exact ⟨rfl, .inr (.inl ⟨HE.out, rfl⟩), G6.out⟩
    case inr.inr =>
      have HE : Hid (P = .deep) := by rw [Hid, HP5.out]; unfold fin; simp only; rw [hR]
      have G6 : Hid (w.grownBy w6 (some L)) := grown_trans SY.out.gr g6
      clear g6 HQs hR
      go_wp2_with fail
      exact ⟨rfl, .inr (.inr ⟨HE.out, rfl⟩), G6.out⟩
    have HE : Hid (P = .ok (⟨3, ⟨#[]⟩, ⟨#[]⟩, [], ds⟩, sub) (l.drop j6)) := by rw [Hid, HP5.out]; unfold fin; simp only; rw [hR]
    have S6 : Hid _ := SY.out.call s6 g6
    obtain ⟨ws, bk, R6⟩ := row
    have hlow := SY.out.low
    have hhN := SY.out.hN
    have O6 : Hid (OneB (w.heap.size + 1 + 1) w6 ⟨3, ⟨#[]⟩, ⟨#[]⟩, [], ds⟩ sub (.slice none 0 0) (.slice a4 ds.length c4) (.slice a5 sub.len c5)) := Own2.one (h := ⟨3, ⟨#[]⟩, ⟨#[]⟩, [], ds⟩) OY.out R6 g6.size (fun g h1 h2 => grown_same g6 h2 (by omega)) (Nat.le_refl _)
    clear hR s6 g6 HQs R6 z6 SY OY HP5
    obtain ⟨Q, hQ⟩ : ∃ Q : World, Q = w6.setCell ⟨w.heap.size + 1, 5, none⟩ (.slice a5 sub.len c5) := ⟨_, rfl⟩
    have SQ : Hid (SlS #[.int .i64 s] w L (w.heap.size + 1) a c l j6 3 ⟨#[]⟩ ⟨#[]⟩ (.slice none 0 0) (.slice a4 ds.length c4) (.slice a5 sub.len c5) Q) := by rw [Hid, hQ]; exact S6.out.put 5 _ rfl
    have OQ : Hid (OneB (w.heap.size + 1 + 1) Q ⟨3, ⟨#[]⟩, ⟨#[]⟩, [], ds⟩ sub (.slice none 0 0) (.slice a4 ds.length c4) (.slice a5 sub.len c5)) := by rw [Hid, hQ]; exact O6.out.set _ (Nat.lt_succ_self _)
    have f3 := fun o => row_frozen S6.out.x o
    have y3 := fun o => row_cell S6.out.x o
    go_upto_region 12 with fail
    rw [← hQ]
    clear hQ f3 y3 S6 O6 hlow hhN

    have D := SQ.out.done OQ.out (.int .i64 3) (.string ⟨#[]⟩) (.string ⟨#[]⟩) (.slice none 0 0) (.slice a4 ds.length c4) (.slice a5 sub.len c5)
    have HD9 : Hid _ := D
    have xA := fun o => row_cell SQ.out.x o
    have xR := fun o => row_cell SQ.out.res o
    have fR := fun o => row_frozen SQ.out.res o
    clear D
    go_wp2_with fail
    exact bodyPost_ret (v := .agg #[.int .i64 3, .string ⟨#[]⟩, .string ⟨#[]⟩, .slice none 0 0, .slice a4 ds.length c4, .slice a5 sub.len c5]) (results_spread _ _ w.heap.size _ rfl HD9.out.2.2.2 rfl) rfl ⟨.inl ⟨⟨3, ⟨#[]⟩, ⟨#[]⟩, [], ds⟩, sub, _, _, _, _, _, _, _, HE.out, rfl, HD9.out.2.1, HD9.out.1⟩, HD9.out.2.2.1⟩
  have e1' : (nm.toList == []) = false := by simp [e1]
  have S2 : Hid (SlS #[.int .i64 s] w L (w.heap.size + 1) a c l (i + 1) 3 ⟨#[]⟩ ⟨#[]⟩ (.slice none 0 0) (.slice none 0 0) (.slice none 0 0) w1) := by have := S1.out; rw [if_neg e1] at this; exact this
  clear S1
  by_cases e2 : nm.toList = [111, 110]
  · have e2' : (nm.toList == [111, 110]) = true := by simp [e2]
    have HP1 : Hid (P = fin d (if (nmI l (i + 1)).toList = [] then none else (pDirs (l.drop (i + 1 + 1))).map fun x => (⟨3, ⟨#[]⟩, nmI l (i + 1), [], x.1⟩, true, x.2))) := by rw [Hid, HP.out, if_neg e1, if_pos e2]
    clear HP e1 e2
    have HQ2 : Hid _ := rd_name 37 #[.int .i64 s] L c (i + 1) a l w1 S2.out.st HG.out.len
    go_wp2_with fail
    refine Calls.mono HQ2.out ?_
    rintro e w2 ⟨⟨hn, rfl, s2⟩ | ⟨hn, rfl⟩, g2⟩
    case inr =>
      have HE : Hid (P = .form) := by rw [Hid, HP1.out, if_pos hn]; rfl
      have G2 : Hid (w.grownBy w2 (some L)) := grown_trans S2.out.gr g2
      clear g2 HQ2 hn S2
      go_wp2_with fail
      exact ⟨rfl, .inr (.inl ⟨HE.out, rfl⟩), G2.out⟩
    obtain ⟨ty, hty⟩ : ∃ z, z = nmI l (i + 1) := ⟨_, rfl⟩
    have HPd : Hid (P = fin d ((pDirs (l.drop (i + 1 + 1))).map fun x => (⟨3, ⟨#[]⟩, ty, [], x.1⟩, true, x.2))) := by rw [Hid, HP1.out, if_neg hn, hty]
    rw [← hty]
    have S3 : Hid _ := S2.out.call s2 g2
    clear hn s2 g2 HQ2 S2 hty HP1
    obtain ⟨X, hX⟩ : ∃ X : World, X = w2.setCell ⟨w.heap.size + 1, 2, none⟩ (.string ty) := ⟨_, rfl⟩
    have SX : Hid (SlS #[.int .i64 s] w L (w.heap.size + 1) a c l (i + 1 + 1) 3 ⟨#[]⟩ ty (.slice none 0 0) (.slice none 0 0) (.slice none 0 0) X) := by rw [Hid, hX]; exact S3.out.put 2 _ rfl
    have f3 := fun o => row_frozen S3.out.x o
    have y3 := fun o => row_cell S3.out.x o
    go_upto_region 9 with fail
    rw [← hX]
    clear hX f3 y3 S3
    obtain ⟨us, hus⟩ : ∃ us : List Ar, us = [] := ⟨_, rfl⟩
    have HQd : Hid _ := pd_dirs #[.int .i64 s] L c (i + 1 + 1) a l X SX.out.st HG.out
    go_wp2_with fail
    refine Calls.mono HQd.out ?_
    rintro e w5 ⟨⟨ds, j5, a4, c4, hx, rfl, own, s5⟩ | ⟨hx, rfl⟩, g5⟩
    case inr =>
      have HE : Hid (P = .form) := by rw [Hid, HPd.out, hx]; rfl
      have G5 : Hid (w.grownBy w5 (some L)) := grown_trans SX.out.gr g5
      clear g5 HQd hx SX
      go_wp2_with fail
      exact ⟨rfl, .inr (.inl ⟨HE.out, rfl⟩), G5.out⟩
    have HP5 : Hid (P = fin d (some (⟨3, ⟨#[]⟩, ty, us, ds⟩, true, l.drop j5))) := by rw [Hid, HPd.out, hx, hus]; rfl
    have S5 : Hid _ := SX.out.call s5 g5
    have O5 : Hid (Own2 w5 (w.heap.size + 1) us (.slice none 0 0) ds (.slice a4 ds.length c4)) := Own2.make (W0 := X) ⟨by rw [hus]; rfl, .inl ⟨rfl, by rw [hus]; rfl⟩⟩ g5 (by have := SX.out.low; omega) (Array.getElem?_eq_some_iff.1 SX.out.x).1 own
    clear hx own s5 g5 HQd SX HPd
    obtain ⟨Y, hY⟩ : ∃ Y : World, Y = w5.setCell ⟨w.heap.size + 1, 4, none⟩ (.slice a4 ds.length c4) := ⟨_, rfl⟩
    have SY : Hid (SlS #[.int .i64 s] w L (w.heap.size + 1) a c l j5 3 ⟨#[]⟩ ty (.slice none 0 0) (.slice a4 ds.length c4) (.slice none 0 0) Y) := by rw [Hid, hY]; exact S5.out.put 4 _ rfl
    have OY : Hid (Own2 Y (w.heap.size + 1) us (.slice none 0 0) ds (.slice a4 ds.length c4)) := by rw [Hid, hY]; exact O5.out.set _ (Nat.le_refl _)
    have f3 := fun o => row_frozen S5.out.x o
    have y3 := fun o => row_cell S5.out.x o
    go_upto_region 10 with fail
    rw [← hY]
    clear hY f3 y3 S5 O5
    subst hus

    have HQs : Hid _ := HSET.out s L c j5 a l Y hsd SY.out.st HG.out
    have z6 := (Array.getElem?_eq_some_iff.1 SY.out.x).1
    have xk := fun o => row_cell SY.out.x o
    go_wp2_with fail
    refine Calls.mono HQs.out ?_
    clear xk
    rintro e w6 ⟨⟨sub, j6, a5, c5, hR, rfl, row, s6⟩ | ⟨hR, rfl⟩ | ⟨hR, rfl⟩, g6⟩
    case inr.inl =>
      have HE : Hid (P = .form) := by rw [Hid, HP5.out]; unfold fin; simp only; rw [hR]
      have G6 : Hid (w.grownBy w6 (some L)) := grown_trans SY.out.gr g6
      clear g6 HQs hR
      go_wp2_with fail
      exact ⟨rfl, .inr (.inl ⟨HE.out, rfl⟩), G6.out⟩
    case inr.inr =>
      have HE : Hid (P = .deep) := by rw [Hid, HP5.out]; unfold fin; simp only; rw [hR]
      have G6 : Hid (w.grownBy w6 (some L)) := grown_trans SY.out.gr g6
      clear g6 HQs hR
      go_wp2_with fail
      exact ⟨rfl, .inr (.inr ⟨HE.out, rfl⟩), G6.out⟩
    have HE : Hid (P = .ok (⟨3, ⟨#[]⟩, ty, [], ds⟩, sub) (l.drop j6)) := by rw [Hid, HP5.out]; unfold fin; simp only; rw [hR]
    have S6 : Hid _ := SY.out.call s6 g6
    obtain ⟨ws, bk, R6⟩ := row
    have hlow := SY.out.low
    have hhN := SY.out.hN
    have O6 : Hid (OneB (w.heap.size + 1 + 1) w6 ⟨3, ⟨#[]⟩, ty, [], ds⟩ sub (.slice none 0 0) (.slice a4 ds.length c4) (.slice a5 sub.len c5)) := Own2.one (h := ⟨3, ⟨#[]⟩, ty, [], ds⟩) OY.out R6 g6.size (fun g h1 h2 => grown_same g6 h2 (by omega)) (Nat.le_refl _)
    clear hR s6 g6 HQs R6 z6 SY OY HP5
    obtain ⟨Q, hQ⟩ : ∃ Q : World, Q = w6.setCell ⟨w.heap.size + 1, 5, none⟩ (.slice a5 sub.len c5) := ⟨_, rfl⟩
    have SQ : Hid (SlS #[.int .i64 s] w L (w.heap.size + 1) a c l j6 3 ⟨#[]⟩ ty (.slice none 0 0) (.slice a4 ds.length c4) (.slice a5 sub.len c5) Q) := by rw [Hid, hQ]; exact S6.out.put 5 _ rfl
    have OQ : Hid (OneB (w.heap.size + 1 + 1) Q ⟨3, ⟨#[]⟩, ty, [], ds⟩ sub (.slice none 0 0) (.slice a4 ds.length c4) (.slice a5 sub.len c5)) := by rw [Hid, hQ]; exact O6.out.set _ (Nat.lt_succ_self _)
    have f3 := fun o => row_frozen S6.out.x o
    have y3 := fun o => row_cell S6.out.x o
    go_upto_region 12 with fail
    rw [← hQ]
    clear hQ f3 y3 S6 O6 hlow hhN

    have D := SQ.out.done OQ.out (.int .i64 3) (.string ⟨#[]⟩) (.string ty) (.slice none 0 0) (.slice a4 ds.length c4) (.slice a5 sub.len c5)
    have HD9 : Hid _ := D
    have xA := fun o => row_cell SQ.out.x o
    have xR := fun o => row_cell SQ.out.res o
    have fR := fun o => row_frozen SQ.out.res o
    clear D
    go_wp2_with fail
    exact bodyPost_ret (v := .agg #[.int .i64 3, .string ⟨#[]⟩, .string ty, .slice none 0 0, .slice a4 ds.length c4, .slice a5 sub.len c5]) (results_spread _ _ w.heap.size _ rfl HD9.out.2.2.2 rfl) rfl ⟨.inl ⟨⟨3, ⟨#[]⟩, ty, [], ds⟩, sub, _, _, _, _, _, _, _, HE.out, rfl, HD9.out.2.1, HD9.out.1⟩, HD9.out.2.2.1⟩
  have e2' : (nm.toList == [111, 110]) = false := by simp [e2]
  have HPd : Hid (P = fin d ((pDirs (l.drop (i + 1))).map fun x => (⟨2, ⟨#[]⟩, nm, [], x.1⟩, false, x.2))) := by rw [Hid, HP.out, if_neg e1, if_neg e2]
  clear HP e1 e2
  obtain ⟨X, hX⟩ : ∃ X : World, X = (w1.setCell ⟨w.heap.size + 1, 0, none⟩ (.int .i64 2)).setCell ⟨w.heap.size + 1, 2, none⟩ (.string nm) := ⟨_, rfl⟩
  have T2 : Hid (SlS #[.int .i64 s] w L (w.heap.size + 1) a c l (i + 1) 2 ⟨#[]⟩ ⟨#[]⟩ (.slice none 0 0) (.slice none 0 0) (.slice none 0 0) (w1.setCell ⟨w.heap.size + 1, 0, none⟩ (.int .i64 2))) := S2.out.put 0 _ rfl
  have SX : Hid (SlS #[.int .i64 s] w L (w.heap.size + 1) a c l (i + 1) 2 ⟨#[]⟩ nm (.slice none 0 0) (.slice none 0 0) (.slice none 0 0) X) := by rw [Hid, hX]; exact T2.out.put 2 _ rfl
  have f3 := fun o => row_frozen S2.out.x o
  have y3 := fun o => row_cell S2.out.x o
  have f4 := fun o => row_frozen T2.out.x o
  have y4 := fun o => row_cell T2.out.x o
  go_upto_region 9 with fail
  rw [← hX]
  clear hX f3 y3 f4 y4 S2 T2
  obtain ⟨us, hus⟩ : ∃ us : List Ar, us = [] := ⟨_, rfl⟩
  have HQd : Hid _ := pd_dirs #[.int .i64 s] L c (i + 1) a l X SX.out.st HG.out
  go_wp2_with fail
  refine Calls.mono HQd.out ?_
  rintro e w5 ⟨⟨ds, j5, a4, c4, hx, rfl, own, s5⟩ | ⟨hx, rfl⟩, g5⟩
  case inr =>
    have HE : Hid (P = .form) := by rw [Hid, HPd.out, hx]; rfl
    have G5 : Hid (w.grownBy w5 (some L)) := grown_trans SX.out.gr g5
    clear g5 HQd hx SX
    go_wp2_with fail
    exact ⟨rfl, .inr (.inl ⟨HE.out, rfl⟩), G5.out⟩
  have HP5 : Hid (P = fin d (some (⟨2, ⟨#[]⟩, nm, us, ds⟩, false, l.drop j5))) := by rw [Hid, HPd.out, hx, hus]; rfl
  have S5 : Hid _ := SX.out.call s5 g5
  have O5 : Hid (Own2 w5 (w.heap.size + 1) us (.slice none 0 0) ds (.slice a4 ds.length c4)) := Own2.make (W0 := X) ⟨by rw [hus]; rfl, .inl ⟨rfl, by rw [hus]; rfl⟩⟩ g5 (by have := SX.out.low; omega) (Array.getElem?_eq_some_iff.1 SX.out.x).1 own
  clear hx own s5 g5 HQd SX HPd
  obtain ⟨Y, hY⟩ : ∃ Y : World, Y = w5.setCell ⟨w.heap.size + 1, 4, none⟩ (.slice a4 ds.length c4) := ⟨_, rfl⟩
  have SY : Hid (SlS #[.int .i64 s] w L (w.heap.size + 1) a c l j5 2 ⟨#[]⟩ nm (.slice none 0 0) (.slice a4 ds.length c4) (.slice none 0 0) Y) := by rw [Hid, hY]; exact S5.out.put 4 _ rfl
  have OY : Hid (Own2 Y (w.heap.size + 1) us (.slice none 0 0) ds (.slice a4 ds.length c4)) := by rw [Hid, hY]; exact O5.out.set _ (Nat.le_refl _)
  have f3 := fun o => row_frozen S5.out.x o
  have y3 := fun o => row_cell S5.out.x o
  go_upto_region 10 with fail
  rw [← hY]
  clear hY f3 y3 S5 O5
  subst hus
  have HE : Hid (P = .ok (⟨2, ⟨#[]⟩, nm, [], ds⟩, .nil) (l.drop j5)) := by rw [Hid, HP5.out]; rfl
  have OQ : Hid (OneB (w.heap.size + 1 + 1) Y ⟨2, ⟨#[]⟩, nm, [], ds⟩ .nil (.slice none 0 0) (.slice a4 ds.length c4) (.slice none 0 0)) := Own2.one (h := ⟨2, ⟨#[]⟩, nm, [], ds⟩) OY.out (RowK.nil _ _) (Nat.le_refl _) (fun _ _ _ => rfl) (Nat.le_refl _)

  have D := SY.out.done OQ.out (.int .i64 2) (.string ⟨#[]⟩) (.string nm) (.slice none 0 0) (.slice a4 ds.length c4) (.slice none 0 0)
  have HD9 : Hid _ := D
  have xA := fun o => row_cell SY.out.x o
  have xR := fun o => row_cell SY.out.res o
  have fR := fun o => row_frozen SY.out.res o
  clear D
  go_wp2_with fail
  exact bodyPost_ret (v := .agg #[.int .i64 2, .string ⟨#[]⟩, .string nm, .slice none 0 0, .slice a4 ds.length c4, .slice none 0 0]) (results_spread _ _ w.heap.size _ rfl HD9.out.2.2.2 rfl) rfl ⟨.inl ⟨⟨2, ⟨#[]⟩, nm, [], ds⟩, .nil, _, _, _, _, _, _, _, HE.out, rfl, HD9.out.2.1, HD9.out.1⟩, HD9.out.2.2.1⟩
end Go.Proofs.YtlilfbcngncllaaGreatDoor
