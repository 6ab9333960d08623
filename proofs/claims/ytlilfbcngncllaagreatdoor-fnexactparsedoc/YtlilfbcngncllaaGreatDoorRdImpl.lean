/- The program's reader of tokens: its place, and what its methods do. -/
import Derived.Test.YtlilfbcngncllaaGreatDoorGBase
import Derived.Laws.StructEq
namespace Go.Proofs.YtlilfbcngncllaaGreatDoor
open Go.ChangeShapes Go.WideShapes Go.ChangeAt Go.RowKit
set_option linter.unusedVariables false

/-- A token's three cells. -/
def TkAt (rd : Nat → Option Value) (o : Nat) (t : Tk) : Prop := rd o = some (.int .i64 t.k) ∧ rd (o + 1) = some (.int .i64 t.n) ∧ rd (o + 2) = some (.string t.t)
abbrev TkRow := G.Row TkAt 3
/-- A reader's block: its tokens, its place, and what else it has; its tokens lie ahead of it. -/
structure RdSt (T : TypeId) (ex : Array Value) (w : World) (L : Nat) (a : Option Addr) (c : Nat) (l : List Tk) (i : Nat) : Prop where
  cell : w.heap[L]? = some (.cells (#[.slice a l.length c, .int .i64 i] ++ ex) T (0, 0))
  le : i ≤ l.length
  row : TkRow 0 L w a l
theorem RdSt.c0 {T : TypeId} {ex : Array Value} {w : World} {L c i : Nat} {a : Option Addr} {l : List Tk} (h : RdSt T ex w L a c l i) : w.cell? ⟨L, 0, none⟩ = some (.slice a l.length c) := by
  have := row_cell h.cell 0
  rw [this, Array.getElem?_append_left (by simp)]; rfl
theorem RdSt.c1 {T : TypeId} {ex : Array Value} {w : World} {L c i : Nat} {a : Option Addr} {l : List Tk} (h : RdSt T ex w L a c l i) : w.cell? ⟨L, 1, none⟩ = some (.int .i64 i) := by
  have := row_cell h.cell 1
  rw [this, Array.getElem?_append_left (by simp)]; rfl
theorem RdSt.f1 {T : TypeId} {ex : Array Value} {w : World} {L c i : Nat} {a : Option Addr} {l : List Tk} (h : RdSt T ex w L a c l i) : w.frozen? ⟨L, 1, none⟩ = false := row_frozen h.cell 1
theorem RdSt.lt {T : TypeId} {ex : Array Value} {w : World} {L c i : Nat} {a : Option Addr} {l : List Tk} (h : RdSt T ex w L a c l i) : L < w.heap.size := (Array.getElem?_eq_some_iff.1 h.cell).1
theorem RdSt.keep {T : TypeId} {ex : Array Value} {w w' : World} {L c i : Nat} {a : Option Addr} {l : List Tk} (h : RdSt T ex w L a c l i) (hk : ∀ g, g ≤ L → w'.heap[g]? = w.heap[g]?) : RdSt T ex w' L a c l i := by
  refine ⟨(hk L (Nat.le_refl _)).trans h.cell, h.le, ?_⟩
  rcases h.row with h0 | ⟨b, o, rfl, h1, h2, h3⟩
  · exact .inl h0
  · exact .inr ⟨b, o, rfl, h1, h2, fun j x hx => by
      have e : G.rdOf w' b = G.rdOf w b := by funext j; exact World.cell?_of_block (hk b (by omega))
      rw [e]; exact h3 j x hx⟩
theorem RdSt.below {T : TypeId} {ex : Array Value} {w w' : World} {L c i : Nat} {a : Option Addr} {l : List Tk} (h : RdSt T ex w L a c l i) (hb : Below w.heap.size w w') : RdSt T ex w' L a c l i := h.keep fun g hg => hb.block g (by have := h.lt; omega)
theorem RdSt.drewN {T : TypeId} {ex : Array Value} {w : World} {L c i : Nat} {a : Option Addr} {l : List Tk} (h : RdSt T ex w L a c l i) (n : Nat) : RdSt T ex (w.drewN n) L a c l i := h.keep fun g _ => rfl
theorem RdSt.set {T : TypeId} {ex : Array Value} {w : World} {L c i : Nat} {a : Option Addr} {l : List Tk} (h : RdSt T ex w L a c l i) {j : Nat} (hj : j ≤ l.length) : RdSt T ex (w.setCell ⟨L, 1, none⟩ (.int .i64 j)) L a c l j := by
  refine ⟨?_, hj, ?_⟩
  · have := row_set h.cell 1 (.int .i64 j)
    rw [this]
    congr 2
    apply Array.ext
    · simp
    · intro k h1 h2
      match k with
      | 0 => simp
      | 1 => simp
      | k + 2 => simp
  · rcases h.row with h0 | ⟨b, o, rfl, h1, h2, h3⟩
    · exact .inl h0
    · exact .inr ⟨b, o, rfl, h1, h2, fun j' x hx => by
        have e : G.rdOf (w.setCell ⟨L, 1, none⟩ (.int .i64 j)) b = G.rdOf w b := by
          funext q
          refine World.cell?_of_block ?_
          exact heap_setCell_other _ _ _ _ (by show b ≠ L; omega)
        rw [e]; exact h3 j' x hx⟩
/-- The token here; behind the last one that is none. -/
def nxT (l : List Tk) (i : Nat) : Tk := match l[i]? with
  | some t => t
  | none => ⟨0, 0, ⟨#[]⟩⟩
def tkE (x y : Tk) : Bool := (x.k == y.k) && (x.n == y.n) && (x.t.toList == y.t.toList)
theorem eq_tk (x y : Tk) (w : World) : (Op.equalIn 10000 66 (.agg #[.int .i64 x.k, .int .i64 x.n, .string x.t]) (.agg #[.int .i64 y.k, .int .i64 y.n, .string y.t])).run Tryz.prog w = .ok (tkE x y) w := by
  have u3 := Tryz.underlying3
  have a3 := Tryz.isAgg3
  have z3 := Tryz.sizeOf3
  have u9 := Tryz.underlying9
  have a9 := Tryz.isAgg9
  have z9 := Tryz.sizeOf9
  have hS : Tryz.prog.underlying 66 = some (.struct (Tryz.prog.fieldsOf 66)) := by kernel_rfl
  rw [show (10000 : Nat) = 9999 + 1 from rfl, run_equalIn_agg w 9999 66 _ _ hS (by kernel_rfl)]
  simp only [Program.fieldsOf, Tryz.underlying66]
  go_simp
  unfold tkE
  cases h1 : (x.k == y.k) <;> cases h2 : (x.n == y.n) <;> cases h3 : (x.t.toList == y.t.toList) <;> simp_all
theorem eql_tk (x y : Tk) (w : World) : (binOp .eql 66 (.agg #[.int .i64 x.k, .int .i64 x.n, .string x.t]) (.agg #[.int .i64 y.k, .int .i64 y.n, .string y.t])).run Tryz.prog w = .ok (.bool (tkE x y)) w := by
  rw [run_eql_struct, eq_tk]; rfl
theorem guard_tk (o1 o2 : Operand) (xs ys : Array Value) (w : World) : (eqGuard .eql 66 o1 o2 (.agg xs) (.agg ys)).run Tryz.prog w = .ok () w := run_eqGuard_agg w .eql 66 o1 o2 xs ys (by kernel_rfl)
set_option maxHeartbeats 1000000 in
theorem rd_ended (T : TypeId) (ex : Array Value) (L c i : Nat) (a : Option Addr) (l : List Tk) (w : World) (h : RdSt T ex w L a c l i) :
    Calls Tryz.prog 24 #[.pointer (some ⟨L, 0, none⟩)] w fun e w' => e = .returned (.bool (decide (i = l.length))) ∧ ∃ n, w' = w.drewN n := by
  have c0 := h.c0
  have c1 := h.c1
  clear h
  have e9 : ((i : Int) == (l.length : Int)) = decide (i = l.length) := by
    by_cases e : i = l.length
    · simp [e]
    · have : ¬ (i : Int) = l.length := by omega
      simp [e, this]
  go_enter Tryz.func24, Tryz.ntmps24
  go_wp2_with fail
  go_quiet (fail)
  go_wp2_with fail
  go_ret
  exact ⟨rfl, _, rfl⟩
theorem results_next (tmps : Array Value) (W : World) (N : Nat) (cs : Array Value) (h2 : tmps.getD 2 undef = .pointer (some ⟨N, 0, none⟩)) (hrow : W.heap[N]? = some (.cells cs 66 (0, 0))) (hsz : cs.size = 3) :
    (results Tryz.f73 tmps).run Tryz.prog W = .ok (.agg cs) W := by
  have c39 : (Tryz.prog.info? 66).map (·.size) = some 3 := by kernel_rfl
  exact results_cell_row Tryz.results73 tmps W N 66 cs (0, 0) _ h2 hrow Tryz.underlying66 rfl (by rw [hsz]; exact c39)
set_option maxHeartbeats 2000000 in
theorem rd_next (T : TypeId) (ex : Array Value) (L c i : Nat) (a : Option Addr) (l : List Tk) (w : World) (h : RdSt T ex w L a c l i) :
    Calls Tryz.prog 73 #[.pointer (some ⟨L, 0, none⟩)] w fun e w' => e = .returned (.agg #[.int .i64 (nxT l i).k, .int .i64 (nxT l i).n, .string (nxT l i).t]) ∧ Below w.heap.size w w' := by
  obtain ⟨V, hV⟩ : ∃ V, V = w.alloc (.cells #[.int .i64 0, .int .i64 0, .string ⟨#[]⟩] 66) := ⟨_, rfl⟩
  have BV : Below w.heap.size w V := by rw [hV]; exact (Below.refl _ _).alloc (Nat.le_refl _) _
  have cV : V.heap[w.heap.size]? = some (.cells #[.int .i64 0, .int .i64 0, .string ⟨#[]⟩] 66 (0, 0)) := by rw [hV]; exact heap_alloc_new _ _
  have HS : Hid (RdSt T ex V L a c l i) := h.below BV
  have HBV : Hid _ := BV
  have HCV : Hid _ := cV
  have hlL := h.lt
  clear h BV cV
  go_enter Tryz.func73, Tryz.ntmps73
  go_upto_region 1 with fail
  rw [← hV]
  clear hV
  go_wp2_with fail
  refine (rd_ended T ex L c i a l V HS.out).mono ?_
  rintro e w1 ⟨rfl, n1, rfl⟩
  have HS1 : Hid (RdSt T ex (V.drewN n1) L a c l i) := HS.out.drewN n1
  have c0 := HS1.out.c0
  have c1 := HS1.out.c1
  have hro : (V.drewN n1).heap[w.heap.size]? = some (.cells #[.int .i64 0, .int .i64 0, .string ⟨#[]⟩] 66 (0, 0)) := HCV.out
  have BV1 : Hid (Below w.heap.size w (V.drewN n1)) := HBV.out.trans ⟨rfl, rfl, rfl, Nat.le_refl _, fun _ _ => rfl⟩
  have HRO : Hid _ := hro
  generalize V.drewN n1 = W at *
  have xr := fun o => row_cell HRO.out o
  have fr := fun o => row_frozen HRO.out o
  cases hE : decide (i = l.length) with
  | true =>
    have hie : i = l.length := of_decide_eq_true hE
    have HN : Hid (nxT l i = ⟨0, 0, ⟨#[]⟩⟩) := by unfold Hid nxT; rw [hie, List.getElem?_eq_none (Nat.le_refl _)]
    clear hE hie c0 c1 HS1 HS hro
    go_wp2_with fail
    refine bodyPost_ret (v := .agg #[.int .i64 0, .int .i64 0, .string ⟨#[]⟩]) (results_next _ _ w.heap.size _ rfl (row_set (row_set (row_set HRO.out 0 (.int .i64 0)) 1 (.int .i64 0)) 2 (.string ⟨#[]⟩)) rfl) rfl ⟨by rw [HN.out], ?_⟩
    repeat (first | refine Below.drew ?_ | refine Below.setCell ?_ (by first | omega | (simp <;> omega)) _)
    exact BV1.out
  | false =>
    have hie : i < l.length := by have := of_decide_eq_false hE; have := HS1.out.le; omega
    have hlt' : (i : Int) < l.length := by omega
    obtain ⟨b, o, ha, _, hbL, d0, d1, d2⟩ := HS1.out.row.at_ i hie
    subst ha
    have HN : Hid (nxT l i = l[i]) := by unfold Hid nxT; rw [List.getElem?_eq_getElem hie]
    have d0 : W.cell? ⟨b, o + i * 3, none⟩ = some (.int .i64 l[i].k) := d0
    have d1 : W.cell? ⟨b, o + i * 3 + 1, none⟩ = some (.int .i64 l[i].n) := d1
    have d2 : W.cell? ⟨b, o + i * 3 + 2, none⟩ = some (.string l[i].t) := d2
    obtain ⟨t, ht⟩ : ∃ z, z = l[i] := ⟨_, rfl⟩
    have HT : Hid (nxT l i = t) := by rw [Hid, HN.out, ht]
    rw [← ht] at d0 d1 d2
    clear hE HS1 HS hro HN ht
    go_upto_region 3 with fail
    go_region
    all_goals go_wp2_with fail
    all_goals (refine bodyPost_ret (v := .agg #[.int .i64 t.k, .int .i64 t.n, .string t.t]) (results_next _ _ w.heap.size _ rfl (row_set (row_set (row_set HRO.out 0 (.int .i64 t.k)) 1 (.int .i64 t.n)) 2 (.string t.t)) rfl) rfl ⟨by rw [HT.out], ?_⟩)
    all_goals (repeat (first | refine Below.drew ?_ | refine Below.setCell ?_ (by first | omega | (simp <;> omega)) _))
    all_goals exact BV1.out
def adv (b : Bool) (i : Nat) : Nat := if b = true then i + 1 else i
set_option maxHeartbeats 2000000 in
theorem rd_atPunct (T : TypeId) (ex : Array Value) (L c i : Nat) (a : Option Addr) (l : List Tk) (s : ByteArray) (w : World) (h : RdSt T ex w L a c l i) :
    Calls Tryz.prog 41 #[.pointer (some ⟨L, 0, none⟩), .string s] w fun e w' => e = .returned (.bool (tkE (nxT l i) ⟨4, 0, s⟩)) ∧ Below w.heap.size w w' := by
  have HQ : Hid _ := rd_next T ex L c i a l w h
  have he := fun W => eql_tk (nxT l i) ⟨4, 0, s⟩ W
  have hg := fun o1 o2 W => guard_tk o1 o2 #[.int .i64 (nxT l i).k, .int .i64 (nxT l i).n, .string (nxT l i).t] #[.int .i64 4, .int .i64 0, .string s] W
  obtain ⟨r, HR⟩ : ∃ r, Hid (r = tkE (nxT l i) ⟨4, 0, s⟩) := ⟨_, rfl⟩
  simp only [← HR.out] at he
  rw [← HR.out]
  clear h HR
  go_enter Tryz.func41, Tryz.ntmps41
  go_wp2_with fail
  refine Calls.mono HQ.out ?_
  rintro e w1 ⟨rfl, b1⟩
  have B1 : Hid _ := b1
  clear b1 HQ
  generalize nxT l i = t at *
  go_wp2_with fail
  go_ret
  exact ⟨rfl, B1.out⟩
set_option maxHeartbeats 2000000 in
theorem rd_passes (T : TypeId) (ex : Array Value) (L c i : Nat) (a : Option Addr) (l : List Tk) (s : ByteArray) (w : World) (h : RdSt T ex w L a c l i) (hl : l.length ≤ 1048576) :
    Calls Tryz.prog 76 #[.pointer (some ⟨L, 0, none⟩), .string s] w fun e w' => e = .returned (.bool (tkE (nxT l i) ⟨4, 0, s⟩)) ∧ RdSt T ex w' L a c l (adv (tkE (nxT l i) ⟨4, 0, s⟩) i) ∧ w.grownBy w' (some L) := by
  have HQ : Hid _ := rd_atPunct T ex L c i a l s w h
  have HS : Hid _ := h
  have HIL : Hid (tkE (nxT l i) ⟨4, 0, s⟩ = true → i < l.length) := fun e => by
    have := h.le
    refine Nat.lt_of_not_le fun hn => ?_
    have h0 : nxT l i = ⟨0, 0, ⟨#[]⟩⟩ := by unfold nxT; rw [List.getElem?_eq_none hn]
    rw [h0] at e
    simp [tkE] at e
  obtain ⟨r, HR⟩ : ∃ r, Hid (r = tkE (nxT l i) ⟨4, 0, s⟩) := ⟨_, rfl⟩
  rw [← HR.out] at HQ HIL
  rw [← HR.out]
  clear h HR
  go_enter Tryz.func76, Tryz.ntmps76
  go_wp2_with fail
  refine Calls.mono HQ.out ?_
  rintro e w1 ⟨rfl, b1⟩
  have HS1 : Hid (RdSt T ex w1 L a c l i) := HS.out.below b1
  have G1 : Hid (w.grownBy w1 (some L)) := grown_below (grown_refl w _) b1
  clear b1 HQ
  cases r with
  | false =>
    clear HIL
    go_wp2_with fail
    go_ret
    exact ⟨rfl, HS1.out, G1.out⟩
  | true =>
    have hil := HIL.out rfl
    have c1 := HS1.out.c1
    have f1 := HS1.out.f1
    clear HIL
    go_wp2_with fail
    go_ret
    rw [show (i : Int) + 1 = ((i + 1 : Nat) : Int) by omega]
    exact ⟨rfl, HS1.out.set (by omega), grown_set G1.out _ _⟩
/-- A fault of form. -/
def badF (e : Ending) : Prop := e = .panicked [{ v := .iface 53 (.agg #[.int .i64 3]), recovered := false }]
set_option maxHeartbeats 2000000 in
theorem rd_mustPass (T : TypeId) (ex : Array Value) (L c i : Nat) (a : Option Addr) (l : List Tk) (s : ByteArray) (w : World) (h : RdSt T ex w L a c l i) (hl : l.length ≤ 1048576) :
    Calls Tryz.prog 74 #[.pointer (some ⟨L, 0, none⟩), .string s] w fun e w' => ((tkE (nxT l i) ⟨4, 0, s⟩ = true ∧ e = .returned (.tuple #[]) ∧ RdSt T ex w' L a c l (i + 1)) ∨ (tkE (nxT l i) ⟨4, 0, s⟩ = false ∧ badF e)) ∧ w.grownBy w' (some L) := by
  have HQ : Hid _ := rd_passes T ex L c i a l s w h hl
  obtain ⟨r, HR⟩ : ∃ r, Hid (r = tkE (nxT l i) ⟨4, 0, s⟩) := ⟨_, rfl⟩
  rw [← HR.out] at HQ
  rw [← HR.out]
  clear h HR
  go_enter Tryz.func74, Tryz.ntmps74
  go_wp2_with fail
  refine Calls.mono HQ.out ?_
  rintro e w1 ⟨rfl, s1, g1⟩
  have HS1 : Hid _ := s1
  have G1 : Hid _ := g1
  clear s1 g1 HQ
  cases r with
  | true =>
    go_wp2_with fail
    refine bodyPost_end (v := .tuple #[]) (by simp [results, Tryz.results74, go_sem]) rfl ⟨⟨rfl, HS1.out⟩, G1.out⟩
  | false =>
    go_wp2_with fail
    exact ⟨rfl, rfl, G1.out⟩
def nmI (l : List Tk) (i : Nat) : ByteArray := if (nxT l i).k = 1 then (nxT l i).t else ⟨#[]⟩
set_option maxHeartbeats 2000000 in
theorem rd_nameIf (T : TypeId) (ex : Array Value) (L c i : Nat) (a : Option Addr) (l : List Tk) (w : World) (h : RdSt T ex w L a c l i) (hl : l.length ≤ 1048576) :
    Calls Tryz.prog 44 #[.pointer (some ⟨L, 0, none⟩)] w fun e w' => e = .returned (.string (nmI l i)) ∧ RdSt T ex w' L a c l (adv (decide ((nxT l i).k = 1)) i) ∧ w.grownBy w' (some L) := by
  have HQ : Hid _ := rd_next T ex L c i a l w h
  have HS : Hid _ := h
  have HIL : Hid ((nxT l i).k = 1 → i < l.length) := fun e => by
    refine Nat.lt_of_not_le fun hn => ?_
    have h0 : nxT l i = ⟨0, 0, ⟨#[]⟩⟩ := by unfold nxT; rw [List.getElem?_eq_none hn]
    rw [h0] at e
    simp at e
  unfold nmI
  generalize nxT l i = t at *
  clear h
  by_cases hk : t.k = 1
  · have hil := HIL.out hk
    rw [if_pos hk, decide_eq_true hk]
    have hk' : (t.k != 1) = false := by simp [hk]
    clear HIL hk
    go_enter Tryz.func44, Tryz.ntmps44
    go_wp2_with fail
    refine Calls.mono HQ.out ?_
    rintro e w1 ⟨rfl, b1⟩
    have HS1 : Hid (RdSt T ex w1 L a c l i) := HS.out.below b1
    have G1 : Hid (w.grownBy w1 (some L)) := grown_below (grown_refl w _) b1
    have hL1 := HS1.out.lt
    clear b1 HQ HS
    obtain ⟨V, hV⟩ : ∃ V, V = w1.alloc (.cells #[.int .i64 t.k, .int .i64 t.n, .string t.t] 66) := ⟨_, rfl⟩
    have BV : Below w1.heap.size w1 V := by rw [hV]; exact (Below.refl _ _).alloc (Nat.le_refl _) _
    have cV : V.heap[w1.heap.size]? = some (.cells #[.int .i64 t.k, .int .i64 t.n, .string t.t] 66 (0, 0)) := by rw [hV]; exact heap_alloc_new _ _
    have HSV : Hid (RdSt T ex V L a c l i) := HS1.out.below BV
    have GV : Hid (w.grownBy V (some L)) := grown_below G1.out BV
    have xV := fun o => row_cell cV o
    have xS := fun (o : Nat) => (World.cell?_of_block (a := ⟨w1.heap.size, o, none⟩) (w := V) (w' := V.setCell ⟨L, 1, none⟩ (.int .i64 ((i : Int) + 1))) (heap_setCell_other _ _ _ _ (by show w1.heap.size ≠ L; omega))).trans (xV o)
    have c1 := HSV.out.c1
    have f1 := HSV.out.f1
    go_upto_region 2 with fail
    rw [← hV]
    clear hV cV BV HS1 G1
    go_wp2_with fail
    go_ret
    rw [show (i : Int) + 1 = ((i + 1 : Nat) : Int) by omega]
    exact ⟨rfl, HSV.out.set (by omega), grown_set GV.out _ _⟩
  · rw [if_neg hk, decide_eq_false hk]
    have hk' : (t.k != 1) = true := by simp [hk]
    clear HIL hk
    go_enter Tryz.func44, Tryz.ntmps44
    go_wp2_with fail
    refine Calls.mono HQ.out ?_
    rintro e w1 ⟨rfl, b1⟩
    have HS1 : Hid (RdSt T ex w1 L a c l i) := HS.out.below b1
    have G1 : Hid (w.grownBy w1 (some L)) := grown_below (grown_refl w _) b1
    clear b1 HQ HS
    have HSV : Hid (RdSt T ex (w1.alloc (.cells #[.int .i64 t.k, .int .i64 t.n, .string t.t] 66)) L a c l i) := HS1.out.below ((Below.refl _ _).alloc (Nat.le_refl _) _)
    go_wp2_with fail
    go_ret
    exact ⟨rfl, HSV.out, grown_alloc G1.out _⟩
set_option maxHeartbeats 2000000 in
theorem rd_name (T : TypeId) (ex : Array Value) (L c i : Nat) (a : Option Addr) (l : List Tk) (w : World) (h : RdSt T ex w L a c l i) (hl : l.length ≤ 1048576) :
    Calls Tryz.prog 43 #[.pointer (some ⟨L, 0, none⟩)] w fun e w' => (((nmI l i).toList ≠ [] ∧ e = .returned (.string (nmI l i)) ∧ RdSt T ex w' L a c l (i + 1)) ∨ ((nmI l i).toList = [] ∧ badF e)) ∧ w.grownBy w' (some L) := by
  have HQ : Hid _ := rd_nameIf T ex L c i a l w h hl
  have HK : Hid ((nmI l i).toList ≠ [] → (nxT l i).k = 1) := fun hn => by
    unfold nmI at hn
    by_cases e : (nxT l i).k = 1
    · exact e
    · rw [if_neg e] at hn; exact absurd (by rw [ByteArray.toList_eq]) hn
  generalize nmI l i = s at *
  clear h
  by_cases hE : s.toList = []
  · have hE' : (s.toList == []) = true := by simp [hE]
    have HE : Hid (s.toList = []) := hE
    clear hE HK
    go_enter Tryz.func43, Tryz.ntmps43
    go_wp2_with fail
    refine Calls.mono HQ.out ?_
    rintro e w1 ⟨rfl, s1, g1⟩
    have G1 : Hid _ := g1
    clear s1 g1 HQ
    go_wp2_with fail
    exact ⟨rfl, .inr ⟨HE.out, rfl⟩, G1.out⟩
  · have hE' : (s.toList == []) = false := by simp [hE]
    have HE : Hid (s.toList ≠ []) := hE
    have HK1 : Hid ((nxT l i).k = 1) := HK.out hE
    clear hE HK
    go_enter Tryz.func43, Tryz.ntmps43
    go_wp2_with fail
    refine Calls.mono HQ.out ?_
    rintro e w1 ⟨rfl, s1, g1⟩
    have HS1 : Hid (RdSt T ex w1 L a c l (i + 1)) := by rw [decide_eq_true HK1.out] at s1; exact s1
    have G1 : Hid _ := g1
    clear s1 g1 HQ
    go_wp2_with fail
    go_ret
    exact ⟨.inl ⟨HE.out, rfl, HS1.out⟩, G1.out⟩
set_option maxHeartbeats 2000000 in
theorem rd_word (T : TypeId) (ex : Array Value) (L c i : Nat) (a : Option Addr) (l : List Tk) (s : ByteArray) (w : World) (h : RdSt T ex w L a c l i) (hl : l.length ≤ 1048576) (hs : s.toList ≠ []) :
    Calls Tryz.prog 45 #[.pointer (some ⟨L, 0, none⟩), .string s] w fun e w' => (((nmI l i).toList = s.toList ∧ e = .returned (.tuple #[]) ∧ RdSt T ex w' L a c l (i + 1)) ∨ ((nmI l i).toList ≠ s.toList ∧ badF e)) ∧ w.grownBy w' (some L) := by
  have HQ : Hid _ := rd_name T ex L c i a l w h hl
  have HSN : Hid (s.toList ≠ []) := hs
  generalize nmI l i = x at *
  clear h hs
  go_enter Tryz.func45, Tryz.ntmps45
  go_wp2_with fail
  refine Calls.mono HQ.out ?_
  rintro e w1 ⟨⟨hn, rfl, s1⟩ | ⟨hn, rfl⟩, g1⟩
  · have HS1 : Hid _ := s1
    have G1 : Hid _ := g1
    clear s1 g1 HQ hn
    by_cases hE : x.toList = s.toList
    · have hE' : (x.toList == s.toList) = true := by simp [hE]
      have HE : Hid (x.toList = s.toList) := hE
      clear hE
      go_wp2_with fail
      refine bodyPost_end (v := .tuple #[]) (by simp [results, Tryz.results45, go_sem]) rfl ⟨.inl ⟨HE.out, rfl, HS1.out⟩, G1.out⟩
    · have hE' : (x.toList == s.toList) = false := by simp [hE]
      have HE : Hid (x.toList ≠ s.toList) := hE
      clear hE
      go_wp2_with fail
      exact ⟨rfl, .inr ⟨HE.out, rfl⟩, G1.out⟩
  · have HE : Hid (x.toList ≠ s.toList) := by rw [Hid, hn]; exact fun e => HSN.out e.symm
    have G1 : Hid _ := g1
    clear g1 HQ hn
    go_wp2_with fail
    exact ⟨rfl, .inr ⟨HE.out, rfl⟩, G1.out⟩
end Go.Proofs.YtlilfbcngncllaaGreatDoor
