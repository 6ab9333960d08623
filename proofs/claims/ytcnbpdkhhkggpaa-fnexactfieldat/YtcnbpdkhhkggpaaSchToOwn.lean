/- The law's own copies: their memory is theirs. -/
import Derived.Test.YtcnbpdkhhkggpaaSchOwn
import Derived.Test.YtcnbpdkhhkggpaaSchTo
namespace Go.Proofs.Ytcnbpdkhhkggpaa.G
open Go.ChangeShapes Go.WideShapes Go.ChangeAt Go.RowKit
set_option linter.unusedVariables false

/-- A row in blocks of its own, each once, from lo up and below hi. -/
def AgMine (lo hi : Nat) (w : World) (a : Option Addr) (l : List Ag) : Prop := ∃ bs : List Nat, AgOwn w a l bs ∧ bs.Nodup ∧ ∀ g ∈ bs, lo ≤ g ∧ g < hi
theorem AgMine.keep {lo hi : Nat} {w w' : World} {a : Option Addr} {l : List Ag} (h : AgMine lo hi w a l) (hk : Agree lo hi w w') : AgMine lo hi w' a l := by
  obtain ⟨bs, h1, h2, h3⟩ := h
  exact ⟨bs, AgOwn.same h1 fun g hg => hk g (h3 g hg).1 (h3 g hg).2, h2, h3⟩
theorem AgMine.wide {lo hi lo' hi' : Nat} {w : World} {a : Option Addr} {l : List Ag} (h : AgMine lo hi w a l) (e1 : lo' ≤ lo) (e2 : hi ≤ hi') : AgMine lo' hi' w a l := by
  obtain ⟨bs, h1, h2, h3⟩ := h
  exact ⟨bs, h1, h2, fun g hg => by have := h3 g hg; omega⟩
theorem AgMine.row {lo hi : Nat} {w : World} {a : Option Addr} {l : List Ag} (h : AgMine lo hi w a l) : AgRow lo hi w a l := by
  obtain ⟨bs, h1, h2, h3⟩ := h
  exact AgOwn.row h1 h3
set_option maxHeartbeats 2000000 in
theorem to_Ags_o (a : Option Addr) (c : Nat) (l : List Ag) (w : World) (hr : AgRow 0 w.heap.size w a l) (hbd : AgsBd 1048576 l) :
    Calls Try.prog 57 #[.slice a l.length c] w fun e w' => ∃ a' c', e = .returned (.slice a' l.length c') ∧ AgMine w.heap.size w'.heap.size w' a' l ∧ Below w.heap.size w w' := by
  obtain ⟨hl, ht⟩ := hbd
  have HR : Hid (AgRow 0 w.heap.size w a l) := hr
  have HT : Hid (∀ x ∈ l, AgBd 1048576 x) := ht
  clear hr ht
  obtain ⟨i27, hi, hz, hsz, hby⟩ := info_Ag
  have hmk := run_make (P := Try.prog) w 26 67 i27 _ Try.underlying26 hi hz .i64 .i64 (l.length : Int) (l.length : Int) (by omega) (by omega) (by rw [hby]; omega) (by omega)
  rw [hsz, Int.toNat_natCast] at hmk
  clear hi hz hsz hby
  have hs0 := size_madeCells (Value.agg #[.string ⟨#[]⟩, .bool false]).cells (l.length * 2)
  generalize madeCells (Value.agg #[.string ⟨#[]⟩, .bool false]).cells (l.length * 2) = cs0 at *
  go_enter Try.func57, Try.ntmps57
  go_wp2_with fail
  go_loopw [4] (fun i w' => ∃ (k : Nat) (cs : Array Value), k ≤ l.length ∧ i = .int .i64 k ∧ Below w.heap.size w w' ∧ Hid (w'.heap[w.heap.size]? = some (.cells cs 67 (0, 0))) ∧ cs.size = l.length * 2 ∧ Hid (LaidR (AgAt (w.heap.size + 1) w'.heap.size w') 2 cs l k)) (fun i _ => l.length - (intOf i).toNat)
  case atStart => exact ⟨0, cs0, by omega, rfl, (Below.refl _ _).alloc (Nat.le_refl _) _, heap_alloc_new _ _, hs0, fun i x h => by omega⟩
  case round =>
    rename_i wr
    obtain ⟨k, cs, hk, rfl, hb, HH, hcs, HL⟩ := hrel
    clear hmk hs0
    by_cases hlt : k < l.length
    · obtain ⟨b, o, ha, _, hbl, d0, d1⟩ := AgRow.cells (AgRow.keep HR.out (agree hb (Nat.le_refl _))) k hlt
      subst ha
      go_wp2_with fail
      refine (to_Ag l[k] _).mono ?_
      rintro e w1 ⟨rfl, hb1⟩
      have hN : w.heap.size < wr.heap.size := (Array.getElem?_eq_some_iff.1 HH.out).1
      have HH1 : Hid (w1.heap[w.heap.size]? = some (.cells cs 67 (0, 0))) := (hb1.block _ hN).trans HH.out
      have HL1 : Hid (LaidR (AgAt (w.heap.size + 1) w1.heap.size w1) 2 cs l k) := LaidR.keep_Ag HL.out (agree hb1 (Nat.le_refl _)) hb1.size
      obtain ⟨v0, hv0⟩ : ∃ v, w1.cell? ⟨w.heap.size, k * 2, none⟩ = some v := ⟨_, (row_cell HH1.out _).trans (Array.getElem?_eq_getElem (by omega))⟩
      obtain ⟨v1, hv1⟩ : ∃ v, w1.cell? ⟨w.heap.size, k * 2 + 1, none⟩ = some v := ⟨_, (row_cell HH1.out _).trans (Array.getElem?_eq_getElem (by omega))⟩
      have hf0 := row_frozen HH1.out (k * 2)
      have hf1 := row_frozen HH1.out (k * 2 + 1)
      have qb : Hid _ := hb.trans (hb1.mono hb.size)
      have hz1 := hb1.size
      clear d0 d1
      go_wp2_with fail
      have G : ∀ W' : World, W'.heap.size = w1.heap.size → Agree (w.heap.size + 1) w1.heap.size w1 W' → Hid (LaidR (AgAt (w.heap.size + 1) W'.heap.size W') 2 (put2 cs (k * 2) (.string l[k].nm) (.bool l[k].need)) l (k + 1)) := by
        intro W' hw ha
        unfold Hid
        rw [hw]
        exact LaidR.put_Ag (LaidR.keep_Ag HL1.out ha (Nat.le_refl _)) hlt hcs
      refine ⟨⟨k + 1, _, by omega, by go_num, (qb.out.setCell (Nat.le_refl _) _).setCell (Nat.le_refl _) _, row_set (row_set HH1.out _ _) _ _, by simp [hcs], ?_⟩, by simp [intOf]; omega⟩
      refine G _ (by simp) ?_
      intro g h1 h2
      repeat rw [heap_set _ _ _ _ _ (by omega)]
    · go_wp2_with fail
      go_ret
      obtain rfl : k = l.length := by omega
      have hN := (Array.getElem?_eq_some_iff.1 HH.out).1
      refine ⟨_, _, rfl, ⟨[w.heap.size], .inr ⟨w.heap.size, cs, rfl, rfl, HH.out, by omega, fun i x hx => HL.out i x (List.getElem?_eq_some_iff.1 hx).1 hx⟩, by simp, ?_⟩, hb⟩
      intro g hg
      rw [List.mem_singleton.1 hg]
      exact ⟨Nat.le_refl _, hN⟩
/-- A row in blocks of its own, each once, from lo up and below hi. -/
def FdMine (lo hi : Nat) (w : World) (a : Option Addr) (l : List Fd) : Prop := ∃ bs : List Nat, FdOwn w a l bs ∧ bs.Nodup ∧ ∀ g ∈ bs, lo ≤ g ∧ g < hi
theorem FdMine.keep {lo hi : Nat} {w w' : World} {a : Option Addr} {l : List Fd} (h : FdMine lo hi w a l) (hk : Agree lo hi w w') : FdMine lo hi w' a l := by
  obtain ⟨bs, h1, h2, h3⟩ := h
  exact ⟨bs, FdOwn.same h1 fun g hg => hk g (h3 g hg).1 (h3 g hg).2, h2, h3⟩
theorem FdMine.wide {lo hi lo' hi' : Nat} {w : World} {a : Option Addr} {l : List Fd} (h : FdMine lo hi w a l) (e1 : lo' ≤ lo) (e2 : hi ≤ hi') : FdMine lo' hi' w a l := by
  obtain ⟨bs, h1, h2, h3⟩ := h
  exact ⟨bs, h1, h2, fun g hg => by have := h3 g hg; omega⟩
theorem FdMine.row {lo hi : Nat} {w : World} {a : Option Addr} {l : List Fd} (h : FdMine lo hi w a l) : FdRow lo hi w a l := by
  obtain ⟨bs, h1, h2, h3⟩ := h
  exact FdOwn.row h1 h3
def FdLaidO (lo hi : Nat) (w : World) (cs : Array Value) (l : List Fd) (k : Nat) : Prop :=
  ∃ subs : List (List Nat), subs.length = k ∧ subs.flatten.Nodup ∧ (∀ g ∈ subs.flatten, lo ≤ g ∧ g < hi) ∧ ∀ i x s, l[i]? = some x → subs[i]? = some s → FdCell cs (i * 5) x ∧ ∃ a3 c3, cs[i * 5 + 1]? = some (.slice a3 x.args.length c3) ∧ AgOwn w a3 x.args s
theorem FdLaidO.keep {lo hi hi' : Nat} {w w' : World} {cs : Array Value} {l : List Fd} {k : Nat} (h : FdLaidO lo hi w cs l k) (ha : Agree lo hi w w') (hh : hi ≤ hi') : FdLaidO lo hi' w' cs l k := by
  obtain ⟨subs, h1, h2, h3, h4⟩ := h
  refine ⟨subs, h1, h2, fun g hg => by have := h3 g hg; omega, fun i x s hx hs => ?_⟩
  obtain ⟨p, a3, c3, p1, p2⟩ := h4 i x s hx hs
  exact ⟨p, a3, c3, p1, AgOwn.same p2 fun g hg => ha g (h3 g (flat_mem hs hg)).1 (h3 g (flat_mem hs hg)).2⟩
theorem FdLaidO.put {lo mid hi : Nat} {w : World} {cs : Array Value} {l : List Fd} {k : Nat} {b3 : Option Addr} {f3 : Nat} (h : FdLaidO lo mid w cs l k) (hk : k < l.length) (hs : cs.size = l.length * 5) (hr : AgMine mid hi w b3 l[k].args) (e1 : lo ≤ mid) (e2 : mid ≤ hi) :
    FdLaidO lo hi w (put5 cs (k * 5) (.string l[k].nm) (.slice b3 l[k].args.length f3) (.string l[k].ty) (.bool l[k].ls) (.bool l[k].bg)) l (k + 1) := by
  obtain ⟨subs, h1, h2, h3, h4⟩ := h
  obtain ⟨bs, r1, r2, r3⟩ := hr
  refine ⟨subs ++ [bs], by simp [h1], ?_, ?_, ?_⟩
  · rw [List.flatten_append, List.nodup_append]
    refine ⟨h2, by simpa using r2, fun x hx y hy e => ?_⟩
    subst e
    have a1 := h3 x hx
    have a2 := r3 x (by simpa using hy)
    omega
  · intro g hg
    rw [List.flatten_append, List.mem_append] at hg
    rcases hg with hg | hg
    · have := h3 g hg; omega
    · have := r3 g (by simpa using hg); omega
  · intro i x s hx hss
    by_cases hik : i = k
    · subst hik
      rw [List.getElem?_eq_getElem hk] at hx
      simp only [Option.some.injEq] at hx
      subst hx
      rw [List.getElem?_append_right (by omega), h1, Nat.sub_self] at hss
      simp only [List.getElem?_cons_zero, Option.some.injEq] at hss
      subst hss
      obtain ⟨g0, g1, g2, g3, g4⟩ := put5_at (cs := cs) (k := i * 5) (v0 := .string l[i].nm) (v1 := .slice b3 l[i].args.length f3) (v2 := .string l[i].ty) (v3 := .bool l[i].ls) (v4 := .bool l[i].bg) (by omega)
      exact ⟨⟨g0, g2, g3, g4⟩, b3, f3, g1, r1⟩
    · have hlt : i < k := by have := (List.getElem?_eq_some_iff.1 hss).1; simp [h1] at this; omega
      rw [List.getElem?_append_left (by omega)] at hss
      obtain ⟨⟨p0, p2, p3, p4⟩, a4, c4, q1, q2⟩ := h4 i x s hx hss
      exact ⟨⟨(put5_else (by omega)).trans p0, (put5_else (by omega)).trans p2, (put5_else (by omega)).trans p3, (put5_else (by omega)).trans p4⟩, a4, c4, (put5_else (by omega)).trans q1, q2⟩
set_option maxHeartbeats 2000000 in
theorem to_Fd_o (x : Fd) (a3 : Option Addr) (c3 : Nat) (w : World) (r3 : AgRow 0 w.heap.size w a3 x.args) (hb : FdBd 1048576 x) :
    Calls Try.prog 54 #[.agg #[.string x.nm, .slice a3 x.args.length c3, .string x.ty, .bool x.ls, .bool x.bg]] w fun e w' =>
      ∃ b3 d3, e = .returned (.agg #[.string x.nm, .slice b3 x.args.length d3, .string x.ty, .bool x.ls, .bool x.bg]) ∧ AgMine w.heap.size w'.heap.size w' b3 x.args ∧ Below w.heap.size w w' := by
  obtain ⟨_, x3, _⟩ := hb
  have K3 : Hid (∀ W0, Below w.heap.size w W0 → AgRow 0 W0.heap.size W0 a3 x.args) := fun W0 hB => AgRow.up r3 hB
  have HS : Hid (AgsBd 1048576 x.args) := x3
  clear r3 x3
  go_enter Try.func54, Try.ntmps54
  go_wp2_with fail
  refine (to_Ags_o a3 c3 x.args _ (K3.out _ ?b0) HS.out).mono ?_
  case b0 => repeat (first | exact Below.refl _ _ | refine Below.setCell ?_ (by first | omega | (simp <;> omega)) _ | refine Below.alloc ?_ (by first | omega | (simp <;> omega)) _)
  rintro e w3 ⟨b3, d3, rfl, A3, hb3⟩
  have hz3 : w.heap.size + 3 ≤ w3.heap.size := by have := hb3.size; simp at this; omega
  have A3 : Hid (AgMine (w.heap.size + 3) w3.heap.size w3 b3 x.args) := AgMine.wide A3 (by first | omega | (simp <;> omega)) (Nat.le_refl _)
  have q3 : Below w.heap.size w w3 := by
    refine Below.trans ?_ (hb3.mono (by first | omega | (simp <;> omega)))
    repeat (first | exact Below.refl _ _ | refine Below.setCell ?_ (by first | omega | (simp <;> omega)) _ | refine Below.alloc ?_ (by first | omega | (simp <;> omega)) _)
  have k30 := fun o => hb3.cell (p := ⟨w.heap.size, o, none⟩) (by first | omega | (simp <;> omega))
  have k31 := fun o => hb3.cell (p := ⟨w.heap.size + 1, o, none⟩) (by first | omega | (simp <;> omega))
  have k32 := fun o => hb3.cell (p := ⟨w.heap.size + 1 + 1, o, none⟩) (by first | omega | (simp <;> omega))
  have j31 := fun o => hb3.frozen (p := ⟨w.heap.size + 1, o, none⟩) (by first | omega | (simp <;> omega))
  have j32 := fun o => hb3.frozen (p := ⟨w.heap.size + 1 + 1, o, none⟩) (by first | omega | (simp <;> omega))
  have Q3 : Hid _ := q3
  clear hb3 q3
  go_wp2_with fail
  refine bodyPost_ret (v := .agg #[.string x.nm, .slice b3 x.args.length d3, .string x.ty, .bool x.ls, .bool x.bg]) (by simp [results, Try.results54, go_sem, k31]) rfl ⟨b3, d3, rfl, ?_⟩
  have G : ∀ W' : World, W'.heap.size = w3.heap.size → Agree (w.heap.size + 3) w3.heap.size w3 W' → Below w.heap.size w W' → AgMine w.heap.size W'.heap.size W' b3 x.args ∧ Below w.heap.size w W' :=
    fun W' hw ha hB => ⟨AgMine.wide (AgMine.keep A3.out ha) (by omega) (by omega), hB⟩
  refine G _ (by simp) ?_ ?_
  · intro g h1 h2
    repeat rw [heap_set _ _ _ _ _ (by omega)]
  · repeat (refine Below.setCell ?_ (by first | omega | (simp <;> omega)) _)
    exact Q3.out
set_option maxHeartbeats 2000000 in
theorem to_Fds_o (a : Option Addr) (c : Nat) (l : List Fd) (w : World) (hr : FdRow 0 w.heap.size w a l) (hbd : FdsBd 1048576 l) :
    Calls Try.prog 45 #[.slice a l.length c] w fun e w' => ∃ a' c', e = .returned (.slice a' l.length c') ∧ FdMine w.heap.size w'.heap.size w' a' l ∧ Below w.heap.size w w' := by
  obtain ⟨hl, ht⟩ := hbd
  have HR : Hid (FdRow 0 w.heap.size w a l) := hr
  have HT : Hid (∀ x ∈ l, FdBd 1048576 x) := ht
  clear hr ht
  obtain ⟨i27, hi, hz, hsz, hby⟩ := info_Fd
  have hmk := run_make (P := Try.prog) w 44 28 i27 _ Try.underlying44 hi hz .i64 .i64 (l.length : Int) (l.length : Int) (by omega) (by omega) (by rw [hby]; omega) (by omega)
  rw [hsz, Int.toNat_natCast] at hmk
  clear hi hz hsz hby
  have hs0 := size_madeCells (Value.agg #[.string ⟨#[]⟩, .slice none 0 0, .string ⟨#[]⟩, .bool false, .bool false]).cells (l.length * 5)
  generalize madeCells (Value.agg #[.string ⟨#[]⟩, .slice none 0 0, .string ⟨#[]⟩, .bool false, .bool false]).cells (l.length * 5) = cs0 at *
  go_enter Try.func45, Try.ntmps45
  go_wp2_with fail
  go_loopw [4] (fun i w' => ∃ (k : Nat) (cs : Array Value), k ≤ l.length ∧ i = .int .i64 k ∧ Below w.heap.size w w' ∧ Hid (w'.heap[w.heap.size]? = some (.cells cs 28 (0, 0))) ∧ cs.size = l.length * 5 ∧ Hid (FdLaidO (w.heap.size + 1) w'.heap.size w' cs l k)) (fun i _ => l.length - (intOf i).toNat)
  case atStart => exact ⟨0, cs0, by omega, rfl, (Below.refl _ _).alloc (Nat.le_refl _) _, heap_alloc_new _ _, hs0, ⟨[], rfl, by simp, by simp, by simp⟩⟩
  case round =>
    rename_i wr
    obtain ⟨k, cs, hk, rfl, hb, HH, hcs, HL⟩ := hrel
    clear hmk hs0
    by_cases hlt : k < l.length
    · obtain ⟨b, o, a3, c3, ha, _, hbl, d0, d1, d2, d3, d4, r3⟩ := FdRow.cells (FdRow.keep HR.out (agree hb (Nat.le_refl _))) k hlt
      subst ha
      have R3 : Hid (AgRow 0 wr.heap.size wr a3 l[k].args) := AgRow.wide r3 (Nat.le_refl _) hb.size
      have HX : Hid (FdBd 1048576 l[k]) := HT.out l[k] (List.getElem_mem hlt)
      clear r3
      go_wp2_with fail
      refine (to_Fd_o l[k] a3 c3 _ R3.out HX.out).mono ?_
      rintro e w1 ⟨b3, f3, rfl, A3, hb1⟩
      have A3 : Hid (AgMine wr.heap.size w1.heap.size w1 b3 l[k].args) := A3
      have hN : w.heap.size < wr.heap.size := (Array.getElem?_eq_some_iff.1 HH.out).1
      have HH1 : Hid (w1.heap[w.heap.size]? = some (.cells cs 28 (0, 0))) := (hb1.block _ hN).trans HH.out
      have HL1 : Hid (FdLaidO (w.heap.size + 1) wr.heap.size w1 cs l k) := FdLaidO.keep HL.out (agree hb1 (Nat.le_refl _)) (Nat.le_refl _)
      obtain ⟨v0, hv0⟩ : ∃ v, w1.cell? ⟨w.heap.size, k * 5, none⟩ = some v := ⟨_, (row_cell HH1.out _).trans (Array.getElem?_eq_getElem (by omega))⟩
      obtain ⟨v1, hv1⟩ : ∃ v, w1.cell? ⟨w.heap.size, k * 5 + 1, none⟩ = some v := ⟨_, (row_cell HH1.out _).trans (Array.getElem?_eq_getElem (by omega))⟩
      obtain ⟨v2, hv2⟩ : ∃ v, w1.cell? ⟨w.heap.size, k * 5 + 2, none⟩ = some v := ⟨_, (row_cell HH1.out _).trans (Array.getElem?_eq_getElem (by omega))⟩
      obtain ⟨v3, hv3⟩ : ∃ v, w1.cell? ⟨w.heap.size, k * 5 + 3, none⟩ = some v := ⟨_, (row_cell HH1.out _).trans (Array.getElem?_eq_getElem (by omega))⟩
      obtain ⟨v4, hv4⟩ : ∃ v, w1.cell? ⟨w.heap.size, k * 5 + 4, none⟩ = some v := ⟨_, (row_cell HH1.out _).trans (Array.getElem?_eq_getElem (by omega))⟩
      have hf0 := row_frozen HH1.out (k * 5)
      have hf1 := row_frozen HH1.out (k * 5 + 1)
      have hf2 := row_frozen HH1.out (k * 5 + 2)
      have hf3 := row_frozen HH1.out (k * 5 + 3)
      have hf4 := row_frozen HH1.out (k * 5 + 4)
      have qb : Hid _ := hb.trans (hb1.mono hb.size)
      have hz1 := hb1.size
      clear d0 d1 d2 d3 d4
      go_wp2_with fail
      have G : ∀ W' : World, W'.heap.size = w1.heap.size → Agree (w.heap.size + 1) w1.heap.size w1 W' → Hid (FdLaidO (w.heap.size + 1) W'.heap.size W' (put5 cs (k * 5) (.string l[k].nm) (.slice b3 l[k].args.length f3) (.string l[k].ty) (.bool l[k].ls) (.bool l[k].bg)) l (k + 1)) := by
        intro W' hw ha
        unfold Hid
        rw [hw]
        exact FdLaidO.put (FdLaidO.keep HL1.out (fun g h1 h2 => ha g h1 (by omega)) (Nat.le_refl _)) hlt hcs (AgMine.keep A3.out (fun g h1 h2 => ha g (by omega) h2)) (by omega) (by omega)
      refine ⟨⟨k + 1, _, by omega, by go_num, ((((qb.out.setCell (Nat.le_refl _) _).setCell (Nat.le_refl _) _).setCell (Nat.le_refl _) _).setCell (Nat.le_refl _) _).setCell (Nat.le_refl _) _, row_set (row_set (row_set (row_set (row_set HH1.out _ _) _ _) _ _) _ _) _ _, by simp [hcs], ?_⟩, by simp [intOf]; omega⟩
      refine G _ (by simp) ?_
      intro g h1 h2
      repeat rw [heap_set _ _ _ _ _ (by omega)]
    · go_wp2_with fail
      go_ret
      obtain rfl : k = l.length := by omega
      have hN := (Array.getElem?_eq_some_iff.1 HH.out).1
      obtain ⟨subs, h1, h2, h3, h4⟩ := HL.out
      refine ⟨_, _, rfl, ⟨w.heap.size :: subs.flatten, .inr ⟨w.heap.size, cs, subs, rfl, rfl, h1, HH.out, by omega, h4⟩, ?_, ?_⟩, hb⟩
      · exact List.nodup_cons.2 ⟨fun hg => by have := h3 _ hg; omega, h2⟩
      · intro g hg
        rcases List.mem_cons.1 hg with rfl | hg
        · exact ⟨Nat.le_refl _, hN⟩
        · have := h3 g hg; omega
/-- A row in blocks of its own, each once, from lo up and below hi. -/
def TdMine (lo hi : Nat) (w : World) (a : Option Addr) (l : List Td) : Prop := ∃ bs : List Nat, TdOwn w a l bs ∧ bs.Nodup ∧ ∀ g ∈ bs, lo ≤ g ∧ g < hi
theorem TdMine.keep {lo hi : Nat} {w w' : World} {a : Option Addr} {l : List Td} (h : TdMine lo hi w a l) (hk : Agree lo hi w w') : TdMine lo hi w' a l := by
  obtain ⟨bs, h1, h2, h3⟩ := h
  exact ⟨bs, TdOwn.same h1 fun g hg => hk g (h3 g hg).1 (h3 g hg).2, h2, h3⟩
theorem TdMine.wide {lo hi lo' hi' : Nat} {w : World} {a : Option Addr} {l : List Td} (h : TdMine lo hi w a l) (e1 : lo' ≤ lo) (e2 : hi ≤ hi') : TdMine lo' hi' w a l := by
  obtain ⟨bs, h1, h2, h3⟩ := h
  exact ⟨bs, h1, h2, fun g hg => by have := h3 g hg; omega⟩
theorem TdMine.row {lo hi : Nat} {w : World} {a : Option Addr} {l : List Td} (h : TdMine lo hi w a l) : TdRow lo hi w a l := by
  obtain ⟨bs, h1, h2, h3⟩ := h
  exact TdOwn.row h1 h3
def TdLaidO (lo hi : Nat) (w : World) (cs : Array Value) (l : List Td) (k : Nat) : Prop :=
  ∃ subs : List (List Nat), subs.length = k ∧ subs.flatten.Nodup ∧ (∀ g ∈ subs.flatten, lo ≤ g ∧ g < hi) ∧ ∀ i x s, l[i]? = some x → subs[i]? = some s → TdCell cs (i * 2) x ∧ ∃ a3 c3, cs[i * 2 + 1]? = some (.slice a3 x.fs.length c3) ∧ FdOwn w a3 x.fs s
theorem TdLaidO.keep {lo hi hi' : Nat} {w w' : World} {cs : Array Value} {l : List Td} {k : Nat} (h : TdLaidO lo hi w cs l k) (ha : Agree lo hi w w') (hh : hi ≤ hi') : TdLaidO lo hi' w' cs l k := by
  obtain ⟨subs, h1, h2, h3, h4⟩ := h
  refine ⟨subs, h1, h2, fun g hg => by have := h3 g hg; omega, fun i x s hx hs => ?_⟩
  obtain ⟨p, a3, c3, p1, p2⟩ := h4 i x s hx hs
  exact ⟨p, a3, c3, p1, FdOwn.same p2 fun g hg => ha g (h3 g (flat_mem hs hg)).1 (h3 g (flat_mem hs hg)).2⟩
theorem TdLaidO.put {lo mid hi : Nat} {w : World} {cs : Array Value} {l : List Td} {k : Nat} {b3 : Option Addr} {f3 : Nat} (h : TdLaidO lo mid w cs l k) (hk : k < l.length) (hs : cs.size = l.length * 2) (hr : FdMine mid hi w b3 l[k].fs) (e1 : lo ≤ mid) (e2 : mid ≤ hi) :
    TdLaidO lo hi w (put2 cs (k * 2) (.string l[k].nm) (.slice b3 l[k].fs.length f3)) l (k + 1) := by
  obtain ⟨subs, h1, h2, h3, h4⟩ := h
  obtain ⟨bs, r1, r2, r3⟩ := hr
  refine ⟨subs ++ [bs], by simp [h1], ?_, ?_, ?_⟩
  · rw [List.flatten_append, List.nodup_append]
    refine ⟨h2, by simpa using r2, fun x hx y hy e => ?_⟩
    subst e
    have a1 := h3 x hx
    have a2 := r3 x (by simpa using hy)
    omega
  · intro g hg
    rw [List.flatten_append, List.mem_append] at hg
    rcases hg with hg | hg
    · have := h3 g hg; omega
    · have := r3 g (by simpa using hg); omega
  · intro i x s hx hss
    by_cases hik : i = k
    · subst hik
      rw [List.getElem?_eq_getElem hk] at hx
      simp only [Option.some.injEq] at hx
      subst hx
      rw [List.getElem?_append_right (by omega), h1, Nat.sub_self] at hss
      simp only [List.getElem?_cons_zero, Option.some.injEq] at hss
      subst hss
      obtain ⟨g0, g1⟩ := put2_at (cs := cs) (k := i * 2) (v0 := .string l[i].nm) (v1 := .slice b3 l[i].fs.length f3) (by omega)
      exact ⟨g0, b3, f3, g1, r1⟩
    · have hlt : i < k := by have := (List.getElem?_eq_some_iff.1 hss).1; simp [h1] at this; omega
      rw [List.getElem?_append_left (by omega)] at hss
      obtain ⟨p0, a4, c4, q1, q2⟩ := h4 i x s hx hss
      exact ⟨(put2_else (by omega)).trans p0, a4, c4, (put2_else (by omega)).trans q1, q2⟩
set_option maxHeartbeats 2000000 in
theorem to_Td_o (x : Td) (a3 : Option Addr) (c3 : Nat) (w : World) (r3 : FdRow 0 w.heap.size w a3 x.fs) (hb : TdBd 1048576 x) :
    Calls Try.prog 31 #[.agg #[.string x.nm, .slice a3 x.fs.length c3]] w fun e w' =>
      ∃ b3 d3, e = .returned (.agg #[.string x.nm, .slice b3 x.fs.length d3]) ∧ FdMine w.heap.size w'.heap.size w' b3 x.fs ∧ Below w.heap.size w w' := by
  obtain ⟨_, x3⟩ := hb
  have K3 : Hid (∀ W0, Below w.heap.size w W0 → FdRow 0 W0.heap.size W0 a3 x.fs) := fun W0 hB => FdRow.up r3 hB
  have HS : Hid (FdsBd 1048576 x.fs) := x3
  clear r3 x3
  go_enter Try.func31, Try.ntmps31
  go_wp2_with fail
  refine (to_Fds_o a3 c3 x.fs _ (K3.out _ ?b0) HS.out).mono ?_
  case b0 => repeat (first | exact Below.refl _ _ | refine Below.setCell ?_ (by first | omega | (simp <;> omega)) _ | refine Below.alloc ?_ (by first | omega | (simp <;> omega)) _)
  rintro e w3 ⟨b3, d3, rfl, A3, hb3⟩
  have hz3 : w.heap.size + 3 ≤ w3.heap.size := by have := hb3.size; simp at this; omega
  have A3 : Hid (FdMine (w.heap.size + 3) w3.heap.size w3 b3 x.fs) := FdMine.wide A3 (by first | omega | (simp <;> omega)) (Nat.le_refl _)
  have q3 : Below w.heap.size w w3 := by
    refine Below.trans ?_ (hb3.mono (by first | omega | (simp <;> omega)))
    repeat (first | exact Below.refl _ _ | refine Below.setCell ?_ (by first | omega | (simp <;> omega)) _ | refine Below.alloc ?_ (by first | omega | (simp <;> omega)) _)
  have k30 := fun o => hb3.cell (p := ⟨w.heap.size, o, none⟩) (by first | omega | (simp <;> omega))
  have k31 := fun o => hb3.cell (p := ⟨w.heap.size + 1, o, none⟩) (by first | omega | (simp <;> omega))
  have k32 := fun o => hb3.cell (p := ⟨w.heap.size + 1 + 1, o, none⟩) (by first | omega | (simp <;> omega))
  have j31 := fun o => hb3.frozen (p := ⟨w.heap.size + 1, o, none⟩) (by first | omega | (simp <;> omega))
  have j32 := fun o => hb3.frozen (p := ⟨w.heap.size + 1 + 1, o, none⟩) (by first | omega | (simp <;> omega))
  have Q3 : Hid _ := q3
  clear hb3 q3
  go_wp2_with fail
  refine bodyPost_ret (v := .agg #[.string x.nm, .slice b3 x.fs.length d3]) (by simp [results, Try.results31, go_sem, k31]) rfl ⟨b3, d3, rfl, ?_⟩
  have G : ∀ W' : World, W'.heap.size = w3.heap.size → Agree (w.heap.size + 3) w3.heap.size w3 W' → Below w.heap.size w W' → FdMine w.heap.size W'.heap.size W' b3 x.fs ∧ Below w.heap.size w W' :=
    fun W' hw ha hB => ⟨FdMine.wide (FdMine.keep A3.out ha) (by omega) (by omega), hB⟩
  refine G _ (by simp) ?_ ?_
  · intro g h1 h2
    repeat rw [heap_set _ _ _ _ _ (by omega)]
  · repeat (refine Below.setCell ?_ (by first | omega | (simp <;> omega)) _)
    exact Q3.out
set_option maxHeartbeats 2000000 in
theorem to_Tds_o (a : Option Addr) (c : Nat) (l : List Td) (w : World) (hr : TdRow 0 w.heap.size w a l) (hbd : TdsBd 1048576 l) :
    Calls Try.prog 17 #[.slice a l.length c] w fun e w' => ∃ a' c', e = .returned (.slice a' l.length c') ∧ TdMine w.heap.size w'.heap.size w' a' l ∧ Below w.heap.size w w' := by
  obtain ⟨hl, ht⟩ := hbd
  have HR : Hid (TdRow 0 w.heap.size w a l) := hr
  have HT : Hid (∀ x ∈ l, TdBd 1048576 x) := ht
  clear hr ht
  obtain ⟨i27, hi, hz, hsz, hby⟩ := info_Td
  have hmk := run_make (P := Try.prog) w 31 46 i27 _ Try.underlying31 hi hz .i64 .i64 (l.length : Int) (l.length : Int) (by omega) (by omega) (by rw [hby]; omega) (by omega)
  rw [hsz, Int.toNat_natCast] at hmk
  clear hi hz hsz hby
  have hs0 := size_madeCells (Value.agg #[.string ⟨#[]⟩, .slice none 0 0]).cells (l.length * 2)
  generalize madeCells (Value.agg #[.string ⟨#[]⟩, .slice none 0 0]).cells (l.length * 2) = cs0 at *
  go_enter Try.func17, Try.ntmps17
  go_wp2_with fail
  go_loopw [4] (fun i w' => ∃ (k : Nat) (cs : Array Value), k ≤ l.length ∧ i = .int .i64 k ∧ Below w.heap.size w w' ∧ Hid (w'.heap[w.heap.size]? = some (.cells cs 46 (0, 0))) ∧ cs.size = l.length * 2 ∧ Hid (TdLaidO (w.heap.size + 1) w'.heap.size w' cs l k)) (fun i _ => l.length - (intOf i).toNat)
  case atStart => exact ⟨0, cs0, by omega, rfl, (Below.refl _ _).alloc (Nat.le_refl _) _, heap_alloc_new _ _, hs0, ⟨[], rfl, by simp, by simp, by simp⟩⟩
  case round =>
    rename_i wr
    obtain ⟨k, cs, hk, rfl, hb, HH, hcs, HL⟩ := hrel
    clear hmk hs0
    by_cases hlt : k < l.length
    · obtain ⟨b, o, a3, c3, ha, _, hbl, d0, d1, r3⟩ := TdRow.cells (TdRow.keep HR.out (agree hb (Nat.le_refl _))) k hlt
      subst ha
      have R3 : Hid (FdRow 0 wr.heap.size wr a3 l[k].fs) := FdRow.wide r3 (Nat.le_refl _) hb.size
      have HX : Hid (TdBd 1048576 l[k]) := HT.out l[k] (List.getElem_mem hlt)
      clear r3
      go_wp2_with fail
      refine (to_Td_o l[k] a3 c3 _ R3.out HX.out).mono ?_
      rintro e w1 ⟨b3, f3, rfl, A3, hb1⟩
      have A3 : Hid (FdMine wr.heap.size w1.heap.size w1 b3 l[k].fs) := A3
      have hN : w.heap.size < wr.heap.size := (Array.getElem?_eq_some_iff.1 HH.out).1
      have HH1 : Hid (w1.heap[w.heap.size]? = some (.cells cs 46 (0, 0))) := (hb1.block _ hN).trans HH.out
      have HL1 : Hid (TdLaidO (w.heap.size + 1) wr.heap.size w1 cs l k) := TdLaidO.keep HL.out (agree hb1 (Nat.le_refl _)) (Nat.le_refl _)
      obtain ⟨v0, hv0⟩ : ∃ v, w1.cell? ⟨w.heap.size, k * 2, none⟩ = some v := ⟨_, (row_cell HH1.out _).trans (Array.getElem?_eq_getElem (by omega))⟩
      obtain ⟨v1, hv1⟩ : ∃ v, w1.cell? ⟨w.heap.size, k * 2 + 1, none⟩ = some v := ⟨_, (row_cell HH1.out _).trans (Array.getElem?_eq_getElem (by omega))⟩
      have hf0 := row_frozen HH1.out (k * 2)
      have hf1 := row_frozen HH1.out (k * 2 + 1)
      have qb : Hid _ := hb.trans (hb1.mono hb.size)
      have hz1 := hb1.size
      clear d0 d1
      go_wp2_with fail
      have G : ∀ W' : World, W'.heap.size = w1.heap.size → Agree (w.heap.size + 1) w1.heap.size w1 W' → Hid (TdLaidO (w.heap.size + 1) W'.heap.size W' (put2 cs (k * 2) (.string l[k].nm) (.slice b3 l[k].fs.length f3)) l (k + 1)) := by
        intro W' hw ha
        unfold Hid
        rw [hw]
        exact TdLaidO.put (TdLaidO.keep HL1.out (fun g h1 h2 => ha g h1 (by omega)) (Nat.le_refl _)) hlt hcs (FdMine.keep A3.out (fun g h1 h2 => ha g (by omega) h2)) (by omega) (by omega)
      refine ⟨⟨k + 1, _, by omega, by go_num, (qb.out.setCell (Nat.le_refl _) _).setCell (Nat.le_refl _) _, row_set (row_set HH1.out _ _) _ _, by simp [hcs], ?_⟩, by simp [intOf]; omega⟩
      refine G _ (by simp) ?_
      intro g h1 h2
      repeat rw [heap_set _ _ _ _ _ (by omega)]
    · go_wp2_with fail
      go_ret
      obtain rfl : k = l.length := by omega
      have hN := (Array.getElem?_eq_some_iff.1 HH.out).1
      obtain ⟨subs, h1, h2, h3, h4⟩ := HL.out
      refine ⟨_, _, rfl, ⟨w.heap.size :: subs.flatten, .inr ⟨w.heap.size, cs, subs, rfl, rfl, h1, HH.out, by omega, h4⟩, ?_, ?_⟩, hb⟩
      · exact List.nodup_cons.2 ⟨fun hg => by have := h3 _ hg; omega, h2⟩
      · intro g hg
        rcases List.mem_cons.1 hg with rfl | hg
        · exact ⟨Nat.le_refl _, hN⟩
        · have := h3 g hg; omega
set_option maxHeartbeats 2000000 in
theorem to_top_o (a : Option Addr) (c : Nat) (l : List Td) (w : World) (hr : TdRow 0 w.heap.size w a l) (hbd : TdsBd 1048576 l) :
    Calls Try.prog 6 #[.agg #[.slice a l.length c]] w fun e w' => ∃ a' c', e = .returned (.agg #[.slice a' l.length c']) ∧ TdMine w.heap.size w'.heap.size w' a' l ∧ Below w.heap.size w w' := by
  have K3 : Hid (∀ W0, Below w.heap.size w W0 → TdRow 0 W0.heap.size W0 a l) := fun W0 hB => TdRow.up hr hB
  have HD : Hid _ := hbd
  clear hr hbd
  go_enter Try.func6, Try.ntmps6
  go_wp2_with fail
  refine (to_Tds_o a c l _ (K3.out _ ?b0) HD.out).mono ?_
  case b0 => repeat (first | exact Below.refl _ _ | refine Below.setCell ?_ (by first | omega | (simp <;> omega)) _ | refine Below.alloc ?_ (by first | omega | (simp <;> omega)) _)
  rintro e w3 ⟨b3, d3, rfl, A3, hb3⟩
  have hz3 : w.heap.size + 3 ≤ w3.heap.size := by have := hb3.size; simp at this; omega
  have A3 : Hid (TdMine (w.heap.size + 3) w3.heap.size w3 b3 l) := TdMine.wide A3 (by first | omega | (simp <;> omega)) (Nat.le_refl _)
  have q3 : Below w.heap.size w w3 := by
    refine Below.trans ?_ (hb3.mono (by first | omega | (simp <;> omega)))
    repeat (first | exact Below.refl _ _ | refine Below.setCell ?_ (by first | omega | (simp <;> omega)) _ | refine Below.alloc ?_ (by first | omega | (simp <;> omega)) _)
  have k30 := fun o => hb3.cell (p := ⟨w.heap.size, o, none⟩) (by first | omega | (simp <;> omega))
  have k31 := fun o => hb3.cell (p := ⟨w.heap.size + 1, o, none⟩) (by first | omega | (simp <;> omega))
  have k32 := fun o => hb3.cell (p := ⟨w.heap.size + 1 + 1, o, none⟩) (by first | omega | (simp <;> omega))
  have j31 := fun o => hb3.frozen (p := ⟨w.heap.size + 1, o, none⟩) (by first | omega | (simp <;> omega))
  have j32 := fun o => hb3.frozen (p := ⟨w.heap.size + 1 + 1, o, none⟩) (by first | omega | (simp <;> omega))
  have Q3 : Hid _ := q3
  clear hb3 q3
  go_wp2_with fail
  refine bodyPost_ret (v := .agg #[.slice b3 l.length d3]) (by simp [results, Try.results6, go_sem, k31]) rfl ⟨b3, d3, rfl, ?_⟩
  have G : ∀ W' : World, W'.heap.size = w3.heap.size → Agree (w.heap.size + 3) w3.heap.size w3 W' → Below w.heap.size w W' → TdMine w.heap.size W'.heap.size W' b3 l ∧ Below w.heap.size w W' :=
    fun W' hw ha hB => ⟨TdMine.wide (TdMine.keep A3.out ha) (by omega) (by omega), hB⟩
  refine G _ (by simp) ?_ ?_
  · intro g h1 h2
    repeat rw [heap_set _ _ _ _ _ (by omega)]
  · repeat (refine Below.setCell ?_ (by first | omega | (simp <;> omega)) _)
    exact Q3.out
end Go.Proofs.Ytcnbpdkhhkggpaa.G
