/- What a value is bound to: both sides. -/
import Derived.Test.YtdhgojeanebhoaaBnOK
namespace Go.Proofs.Ytdhgojeanebhoaa
open Go.ChangeShapes Go.WideShapes Go.ChangeAt Go.RowKit
set_option linter.unusedVariables false

def va0 : Va := ⟨0, 0, ⟨#[]⟩⟩
/-- What a name is bound to, and whether it is. -/
def lk : List Ar → ByteArray → Va × Bool
  | [], _ => (va0, false)
  | x :: l, t => if (x.nm.toList == t.toList) = true then (x.v, true) else lk l t
def bval (v : Va) (l : List Ar) : Va × Bool := if v.k = 4 then lk l v.t else (v, true)
theorem bval_not {v : Va} {l : List Ar} (h : ¬ v.k = 4) : bval v l = (v, true) := if_neg h
theorem bval_var {v : Va} {l : List Ar} (h : v.k = 4) : bval v l = lk l v.t := if_pos h
theorem lk_yes {l : List Ar} {k : Nat} (hk : k < l.length) {t : ByteArray} (h : (l[k].nm.toList == t.toList) = true) : lk (l.drop k) t = (l[k].v, true) := by
  rw [List.drop_eq_getElem_cons hk]; simp only [lk]; rw [if_pos h]
theorem lk_no {l : List Ar} {k : Nat} (hk : k < l.length) {t : ByteArray} (h : (l[k].nm.toList == t.toList) = false) : lk (l.drop k) t = lk (l.drop (k + 1)) t := by
  rw [List.drop_eq_getElem_cons hk]; simp only [lk]; rw [if_neg (by rw [h]; exact Bool.noConfusion)]
theorem lk_end {l : List Ar} {k : Nat} (hk : ¬ k < l.length) {t : ByteArray} : lk (l.drop k) t = (va0, false) := by
  rw [List.drop_of_length_le (by omega)]; rfl
theorem lk_bd {m : Nat} {t : ByteArray} : ∀ {l : List Ar} {u : Va} {b : Bool}, (∀ x ∈ l, ArBd m x) → lk l t = (u, b) → u.t.size ≤ m
  | [], u, b, _, h => by
    simp only [lk, Prod.mk.injEq] at h
    obtain ⟨rfl, rfl⟩ := h
    exact Nat.zero_le _
  | x :: l, u, b, ht, h => by
    simp only [lk] at h
    split at h
    · simp only [Prod.mk.injEq] at h
      obtain ⟨rfl, rfl⟩ := h
      exact (ht x (List.mem_cons_self ..)).2
    · exact lk_bd (fun y hy => ht y (List.mem_cons_of_mem _ hy)) h
theorem bval_bd {m : Nat} {v u : Va} {b : Bool} {l : List Ar} (hv : v.t.size ≤ m) (ht : ∀ x ∈ l, ArBd m x) (h : bval v l = (u, b)) : u.t.size ≤ m := by
  by_cases h4 : v.k = 4
  · rw [bval_var h4] at h; exact lk_bd ht h
  · rw [bval_not h4] at h
    simp only [Prod.mk.injEq] at h
    obtain ⟨rfl, rfl⟩ := h
    exact hv

set_option maxHeartbeats 2000000 in
set_option maxRecDepth 20000 in
theorem spec_value (v : Va) (a : Option Addr) (c : Nat) (l : List Ar) (u : Va) (b : Bool) (w : World) (hr : ArRow 0 w.heap.size w a l) (hl : l.length ≤ 1048576) (hu : bval v l = (u, b)) :
    Calls Try.prog 35 #[.agg #[.int .i64 v.k, .int .i64 v.n, .string v.t], .slice a l.length c] w fun e w' => e = .returned (.tuple #[.agg #[.int .i64 u.k, .int .i64 u.n, .string u.t], .bool b]) ∧ Below w.heap.size w w' := by
  obtain ⟨k0, n0, t0⟩ := v
  have HR : Hid (ArRow 0 w.heap.size w a l) := hr
  clear hr
  by_cases h4 : k0 = 4
  case neg =>
    have g4 : (k0 == 4) = false := by rw [beq_eq_false_iff_ne]; exact h4
    rw [bval_not h4] at hu
    simp only [Prod.mk.injEq] at hu
    obtain ⟨rfl, rfl⟩ := hu
    simp only
    clear h4
    go_enter Try.func35, Try.ntmps35
    go_wp2_with fail
    refine bodyPost_ret (v := .tuple #[.agg #[.int .i64 k0, .int .i64 n0, .string t0], .bool true]) (by simp [results, Try.results35, go_sem]) rfl ⟨rfl, ?_⟩
    repeat (first | exact Below.refl _ _ | refine Below.setCell ?_ (by first | omega | (simp <;> omega)) _ | refine Below.alloc ?_ (by first | omega | (simp <;> omega)) _)
  subst h4
  rw [bval_var rfl] at hu
  have HU : Hid (lk l t0 = (u, b)) := hu
  clear hu
  simp only
  go_enter Try.func35, Try.ntmps35
  go_wp2_with fail
  obtain ⟨W, hW⟩ : ∃ W, W = (w.alloc (.cells #[.int .i64 4, .int .i64 n0, .string t0] 32)).alloc (.cells #[.int .i64 0, .int .i64 0, .string ⟨#[]⟩] 32) := ⟨_, rfl⟩
  rw [← hW]
  have zW : W.heap.size = w.heap.size + 2 := by rw [hW]; simp
  have B0 : Hid (Below w.heap.size w W) := by rw [hW]; exact ((Below.refl _ _).alloc (Nat.le_refl _) _).alloc (by simp) _
  have A0 : Hid (W.heap[w.heap.size]? = some (.cells #[.int .i64 4, .int .i64 n0, .string t0] 32 (0, 0))) := by rw [Hid, hW, Below.heap_alloc _ _ _ (by simp)]; exact heap_alloc_new _ _
  have A1 : Hid (W.heap[w.heap.size + 1]? = some (.cells #[.int .i64 0, .int .i64 0, .string ⟨#[]⟩] 32 (0, 0))) := by
    rw [Hid, hW]
    have := heap_alloc_new (w.alloc (.cells #[.int .i64 4, .int .i64 n0, .string t0] 32)) (.cells #[.int .i64 0, .int .i64 0, .string ⟨#[]⟩] 32)
    simpa using this
  clear hW
  go_loopw [6] (fun i w' => ∃ (k : Nat), k ≤ l.length ∧ i = .int .i64 k ∧ Below W.heap.size W w' ∧ Hid (lk (l.drop k) t0 = (u, b))) (fun i _ => l.length - (intOf i).toNat)
  case atStart => exact ⟨0, by omega, rfl, Below.refl _ _, HU⟩
  case round =>
    obtain ⟨k, hk, rfl, hb, HK⟩ := hrel
    have HBR : Hid _ := hb
    have QR : Hid (Below w.heap.size w wr) := B0.out.trans (hb.mono (by omega))
    have zr := hb.size
    have r0 : wr.heap[w.heap.size]? = _ := (hb.block w.heap.size (by omega)).trans A0.out
    have r1 : wr.heap[w.heap.size + 1]? = _ := (hb.block (w.heap.size + 1) (by omega)).trans A1.out
    have q0 := fun o => row_cell r0 o
    have q1 := fun o => row_cell r1 o
    have f1 := fun o => row_frozen r1 o
    have p0 := fun ob o => (((Below.refl wr.heap.size wr).alloc (Nat.le_refl _) ob).cell (p := ⟨w.heap.size, o, none⟩) (show w.heap.size < wr.heap.size by omega)).trans (q0 o)
    have p1 := fun ob o => (((Below.refl wr.heap.size wr).alloc (Nat.le_refl _) ob).cell (p := ⟨w.heap.size + 1, o, none⟩) (show w.heap.size + 1 < wr.heap.size by omega)).trans (q1 o)
    have g1 := fun ob o => (((Below.refl wr.heap.size wr).alloc (Nat.le_refl _) ob).frozen (p := ⟨w.heap.size + 1, o, none⟩) (show w.heap.size + 1 < wr.heap.size by omega)).trans (f1 o)
    clear hb r0 r1
    by_cases hlt : k < l.length
    case neg =>
      have hz := HK.out
      rw [lk_end hlt] at hz
      simp only [Prod.mk.injEq] at hz
      obtain ⟨rfl, rfl⟩ := hz
      go_wp2_with fail
      refine bodyPost_ret (v := .tuple #[.agg #[.int .i64 0, .int .i64 0, .string ⟨#[]⟩], .bool false]) (by simp [results, Try.results35, go_sem, q1]) rfl ⟨rfl, ?_⟩
      repeat (first | exact QR.out | refine Below.setCell ?_ (by first | omega | (simp <;> omega)) _ | refine Below.alloc ?_ (by first | omega | (simp <;> omega)) _)
    obtain ⟨b5, o5, ha, _, hbl, d0, d1, d2, d3⟩ := (HR.out.keep (Below.agree QR.out (Nat.le_refl _))).cells_ar k hlt
    subst ha
    cases h5 : (l[k].nm.toList == t0.toList) with
    | false =>
      have HF : Hid (lk (l.drop (k + 1)) t0 = (u, b)) := by rw [Hid, ← lk_no hlt h5]; exact HK.out
      clear HK
      · skip
        go_wp2_with fail
        go_quiet (fail)
        go_wp2_with fail
        go_roundw
        case rel => exact ⟨k + 1, by omega, by go_num, HBR.out.trans (by exact ⟨rfl, rfl, rfl, Nat.le_refl _, fun _ _ => rfl⟩), HF⟩
        case measure => simp [intOf]; omega
    | true =>
      have hz := HK.out
      rw [lk_yes hlt h5] at hz
      simp only [Prod.mk.injEq] at hz
      obtain ⟨rfl, rfl⟩ := hz
      · skip
        go_wp2_with fail
        go_quiet (fail)
        go_wp2_with fail
        refine bodyPost_ret (v := .tuple #[.agg #[.int .i64 l[k].v.k, .int .i64 l[k].v.n, .string l[k].v.t], .bool true]) (by simp [results, Try.results35, go_sem, q1]) rfl ⟨rfl, ?_⟩
        repeat (first | exact QR.out | exact QR.out.trans (by exact ⟨rfl, rfl, rfl, Nat.le_refl _, fun _ _ => rfl⟩) | refine Below.setCell ?_ (by first | omega | (simp <;> omega)) _ | refine Below.alloc ?_ (by first | omega | (simp <;> omega)) _)

set_option maxHeartbeats 2000000 in
set_option maxRecDepth 20000 in
theorem impl_bound (v : Va) (a : Option Addr) (c : Nat) (l : List Ar) (u : Va) (b : Bool) (w : World) (hr : ArRow 0 w.heap.size w a l) (hl : l.length ≤ 1048576) (hu : bval v l = (u, b)) :
    Calls Try.prog 36 #[.agg #[.int .i64 v.k, .int .i64 v.n, .string v.t], .slice a l.length c] w fun e w' => e = .returned (.tuple #[.agg #[.int .i64 u.k, .int .i64 u.n, .string u.t], .bool b]) ∧ Below w.heap.size w w' := by
  obtain ⟨k0, n0, t0⟩ := v
  have HR : Hid (ArRow 0 w.heap.size w a l) := hr
  clear hr
  by_cases h4 : k0 = 4
  case neg =>
    have g4 : (k0 == 4) = false := by rw [beq_eq_false_iff_ne]; exact h4
    rw [bval_not h4] at hu
    simp only [Prod.mk.injEq] at hu
    obtain ⟨rfl, rfl⟩ := hu
    simp only
    clear h4
    go_enter Try.func36, Try.ntmps36
    go_wp2_with fail
    refine bodyPost_ret (v := .tuple #[.agg #[.int .i64 k0, .int .i64 n0, .string t0], .bool true]) (by simp [results, Try.results36, go_sem]) rfl ⟨rfl, ?_⟩
    repeat (first | exact Below.refl _ _ | refine Below.setCell ?_ (by first | omega | (simp <;> omega)) _ | refine Below.alloc ?_ (by first | omega | (simp <;> omega)) _)
  subst h4
  rw [bval_var rfl] at hu
  have HU : Hid (lk l t0 = (u, b)) := hu
  clear hu
  simp only
  go_enter Try.func36, Try.ntmps36
  go_wp2_with fail
  obtain ⟨W, hW⟩ : ∃ W, W = (w.alloc (.cells #[.int .i64 4, .int .i64 n0, .string t0] 32)).alloc (.cells #[.int .i64 0, .int .i64 0, .string ⟨#[]⟩] 32) := ⟨_, rfl⟩
  rw [← hW]
  have zW : W.heap.size = w.heap.size + 2 := by rw [hW]; simp
  have B0 : Hid (Below w.heap.size w W) := by rw [hW]; exact ((Below.refl _ _).alloc (Nat.le_refl _) _).alloc (by simp) _
  have A0 : Hid (W.heap[w.heap.size]? = some (.cells #[.int .i64 4, .int .i64 n0, .string t0] 32 (0, 0))) := by rw [Hid, hW, Below.heap_alloc _ _ _ (by simp)]; exact heap_alloc_new _ _
  have A1 : Hid (W.heap[w.heap.size + 1]? = some (.cells #[.int .i64 0, .int .i64 0, .string ⟨#[]⟩] 32 (0, 0))) := by
    rw [Hid, hW]
    have := heap_alloc_new (w.alloc (.cells #[.int .i64 4, .int .i64 n0, .string t0] 32)) (.cells #[.int .i64 0, .int .i64 0, .string ⟨#[]⟩] 32)
    simpa using this
  clear hW
  go_loopw [14] (fun i w' => ∃ (k : Nat), k ≤ l.length ∧ i = .int .i64 k ∧ Below W.heap.size W w' ∧ Hid (lk (l.drop k) t0 = (u, b))) (fun i _ => l.length - (intOf i).toNat)
  case atStart => exact ⟨0, by omega, rfl, Below.refl _ _, HU⟩
  case round =>
    obtain ⟨k, hk, rfl, hb, HK⟩ := hrel
    have HBR : Hid _ := hb
    have QR : Hid (Below w.heap.size w wr) := B0.out.trans (hb.mono (by omega))
    have zr := hb.size
    have r0 : wr.heap[w.heap.size]? = _ := (hb.block w.heap.size (by omega)).trans A0.out
    have r1 : wr.heap[w.heap.size + 1]? = _ := (hb.block (w.heap.size + 1) (by omega)).trans A1.out
    have q0 := fun o => row_cell r0 o
    have q1 := fun o => row_cell r1 o
    have f1 := fun o => row_frozen r1 o
    have p0 := fun ob o => (((Below.refl wr.heap.size wr).alloc (Nat.le_refl _) ob).cell (p := ⟨w.heap.size, o, none⟩) (show w.heap.size < wr.heap.size by omega)).trans (q0 o)
    have p1 := fun ob o => (((Below.refl wr.heap.size wr).alloc (Nat.le_refl _) ob).cell (p := ⟨w.heap.size + 1, o, none⟩) (show w.heap.size + 1 < wr.heap.size by omega)).trans (q1 o)
    have g1 := fun ob o => (((Below.refl wr.heap.size wr).alloc (Nat.le_refl _) ob).frozen (p := ⟨w.heap.size + 1, o, none⟩) (show w.heap.size + 1 < wr.heap.size by omega)).trans (f1 o)
    clear hb r0 r1
    by_cases hlt : k < l.length
    case neg =>
      have hz := HK.out
      rw [lk_end hlt] at hz
      simp only [Prod.mk.injEq] at hz
      obtain ⟨rfl, rfl⟩ := hz
      go_wp2_with fail
      refine bodyPost_ret (v := .tuple #[.agg #[.int .i64 0, .int .i64 0, .string ⟨#[]⟩], .bool false]) (by simp [results, Try.results36, go_sem, q1]) rfl ⟨rfl, ?_⟩
      repeat (first | exact QR.out | refine Below.setCell ?_ (by first | omega | (simp <;> omega)) _ | refine Below.alloc ?_ (by first | omega | (simp <;> omega)) _)
    obtain ⟨b5, o5, ha, _, hbl, d0, d1, d2, d3⟩ := (HR.out.keep (Below.agree QR.out (Nat.le_refl _))).cells_ar k hlt
    subst ha
    cases h5 : (l[k].nm.toList == t0.toList) with
    | false =>
      have HF : Hid (lk (l.drop (k + 1)) t0 = (u, b)) := by rw [Hid, ← lk_no hlt h5]; exact HK.out
      clear HK
      · skip
        go_wp2_with fail
        refine ⟨⟨k + 1, by omega, by go_num, ?_, HF⟩, by simp [intOf]; omega⟩
        repeat (first | exact HBR.out | refine Below.setCell ?_ (by first | omega | (simp <;> omega)) _ | refine Below.alloc ?_ (by first | omega | (simp <;> omega)) _)
    | true =>
      have hz := HK.out
      rw [lk_yes hlt h5] at hz
      simp only [Prod.mk.injEq] at hz
      obtain ⟨rfl, rfl⟩ := hz
      · skip
        go_wp2_with fail
        refine bodyPost_ret (v := .tuple #[.agg #[.int .i64 l[k].v.k, .int .i64 l[k].v.n, .string l[k].v.t], .bool true]) (by simp [results, Try.results36, go_sem, p1]) rfl ⟨rfl, ?_⟩
        repeat (first | exact QR.out | exact QR.out.trans (by exact ⟨rfl, rfl, rfl, Nat.le_refl _, fun _ _ => rfl⟩) | refine Below.setCell ?_ (by first | omega | (simp <;> omega)) _ | refine Below.alloc ?_ (by first | omega | (simp <;> omega)) _)

/-- What ValueOf tells. -/
def valOf (v : Va) (l : List Ar) : Va × Int :=
  if 4096 < l.length then (va0, 2)
  else if !(valB v && bindB l) then (va0, 1)
  else if (bval v l).2 = true then ((bval v l).1, 0) else (va0, 14)

set_option maxHeartbeats 2000000 in
set_option maxRecDepth 20000 in
theorem spec_valueOf (v : Va) (a : Option Addr) (c : Nat) (l : List Ar) (u : Va) (y : Int) (w : World) (hv : v.t.size ≤ 1048576) (hr : ArRow 0 w.heap.size w a l) (hl : l.length ≤ 1048576) (ht : ∀ x ∈ l, ArBd 1048576 x) (hy : valOf v l = (u, y)) :
    Calls Try.prog 13 #[.agg #[.int .i64 v.k, .int .i64 v.n, .string v.t], .slice a l.length c] w fun e w' => e = .returned (.tuple #[.agg #[.int .i64 u.k, .int .i64 u.n, .string u.t], .int .i64 y]) ∧ Below w.heap.size w w' := by
  have HR : Hid (∀ W0, Below w.heap.size w W0 → ArRow 0 W0.heap.size W0 a l) := fun W0 hB => Row.up hr hB
  have HT : Hid (∀ x ∈ l, ArBd 1048576 x) := ht
  have HY : Hid (valOf v l = (u, y)) := hy
  have hv' : v.t.size ≤ maxLen := by unfold maxLen; omega
  clear hr ht hy
  by_cases hbig : 4096 < l.length
  case pos =>
    have hz := HY.out
    unfold valOf at hz
    rw [if_pos hbig] at hz
    simp only [Prod.mk.injEq] at hz
    obtain ⟨rfl, rfl⟩ := hz
    go_enter Try.func13, Try.ntmps13
    go_wp2_with fail
    refine bodyPost_ret (v := .tuple #[.agg #[.int .i64 0, .int .i64 0, .string ⟨#[]⟩], .int .i64 2]) (by simp [results, Try.results13, go_sem]) rfl ⟨rfl, ?_⟩
    repeat (first | exact Below.refl _ _ | refine Below.setCell ?_ (by first | omega | (simp <;> omega)) _ | refine Below.alloc ?_ (by first | omega | (simp <;> omega)) _)
  go_enter Try.func13, Try.ntmps13
  go_wp2_with fail
  refine (spec_val v _ hv').mono ?_
  rintro e w1 ⟨rfl, hb1⟩
  have z1 : w.heap.size + 2 ≤ w1.heap.size := by have := hb1.size; simp at this; omega
  have k10 := fun o => hb1.cell (p := ⟨w.heap.size, o, none⟩) (by first | omega | (simp <;> omega))
  have k11 := fun o => hb1.cell (p := ⟨w.heap.size + 1, o, none⟩) (by first | omega | (simp <;> omega))
  have j11 := fun o => hb1.frozen (p := ⟨w.heap.size + 1, o, none⟩) (by first | omega | (simp <;> omega))
  have Q1 : Hid (Below w.heap.size w w1) := by
    refine Below.trans ?_ (hb1.mono (by first | omega | (simp <;> omega)))
    repeat (first | exact Below.refl _ _ | refine Below.setCell ?_ (by first | omega | (simp <;> omega)) _ | refine Below.alloc ?_ (by first | omega | (simp <;> omega)) _)
  clear hb1
  cases hvb : valB v with
  | false =>
    have hz := HY.out
    unfold valOf at hz
    rw [if_neg hbig, hvb] at hz
    simp only [Bool.false_and, Bool.not_false, if_true, Prod.mk.injEq] at hz
    obtain ⟨rfl, rfl⟩ := hz
    go_wp2_with fail
    refine bodyPost_ret (v := .tuple #[.agg #[.int .i64 0, .int .i64 0, .string ⟨#[]⟩], .int .i64 1]) (by simp [results, Try.results13, go_sem, k11]) rfl ⟨rfl, ?_⟩
    repeat (first | exact Q1.out | refine Below.setCell ?_ (by first | omega | (simp <;> omega)) _ | refine Below.alloc ?_ (by first | omega | (simp <;> omega)) _)
  | true =>
  go_wp2_with fail
  refine (spec_binds a c l _ (HR.out _ Q1.out) hl HT.out).mono ?_
  rintro e w2 ⟨rfl, hb2⟩
  have z2 : w.heap.size + 2 ≤ w2.heap.size := by have := hb2.size; omega
  have k20 := fun o => (hb2.cell (p := ⟨w.heap.size, o, none⟩) (show w.heap.size < w1.heap.size by omega)).trans (k10 o)
  have k21 := fun o => (hb2.cell (p := ⟨w.heap.size + 1, o, none⟩) (show w.heap.size + 1 < w1.heap.size by omega)).trans (k11 o)
  have j21 := fun o => (hb2.frozen (p := ⟨w.heap.size + 1, o, none⟩) (show w.heap.size + 1 < w1.heap.size by omega)).trans (j11 o)
  have Q2 : Hid (Below w.heap.size w w2) := Q1.out.trans (hb2.mono (by omega))
  clear hb2 k10 k11 j11
  cases hbb : bindB l with
  | false =>
    have hz := HY.out
    unfold valOf at hz
    rw [if_neg hbig, hvb, hbb] at hz
    simp only [Bool.and_false, Bool.not_false, if_true, Prod.mk.injEq] at hz
    obtain ⟨rfl, rfl⟩ := hz
    go_wp2_with fail
    refine bodyPost_ret (v := .tuple #[.agg #[.int .i64 0, .int .i64 0, .string ⟨#[]⟩], .int .i64 1]) (by simp [results, Try.results13, go_sem, k21]) rfl ⟨rfl, ?_⟩
    repeat (first | exact Q2.out | refine Below.setCell ?_ (by first | omega | (simp <;> omega)) _ | refine Below.alloc ?_ (by first | omega | (simp <;> omega)) _)
  | true =>
  obtain ⟨u', b', hu'⟩ : ∃ u' b', bval v l = (u', b') := ⟨_, _, rfl⟩
  have hz := HY.out
  unfold valOf at hz
  rw [if_neg hbig, hvb, hbb, hu'] at hz
  have HZ : Hid _ := hz
  have HU : Hid (bval v l = (u', b')) := hu'
  clear hz hu' HY
  go_wp2_with fail
  refine (spec_value v a c l u' b' _ (HR.out _ Q2.out) hl HU.out).mono ?_
  rintro e w3 ⟨rfl, hb3⟩
  have z3 : w.heap.size + 2 ≤ w3.heap.size := by have := hb3.size; omega
  have k31 := fun o => (hb3.cell (p := ⟨w.heap.size + 1, o, none⟩) (show w.heap.size + 1 < w2.heap.size by omega)).trans (k21 o)
  have j31 := fun o => (hb3.frozen (p := ⟨w.heap.size + 1, o, none⟩) (show w.heap.size + 1 < w2.heap.size by omega)).trans (j21 o)
  have Q3 : Hid (Below w.heap.size w w3) := Q2.out.trans (hb3.mono (by omega))
  have p31 := fun ob o => (((Below.refl w3.heap.size w3).alloc (Nat.le_refl _) ob).cell (p := ⟨w.heap.size + 1, o, none⟩) (show w.heap.size + 1 < w3.heap.size by omega)).trans (k31 o)
  have g31 := fun ob o => (((Below.refl w3.heap.size w3).alloc (Nat.le_refl _) ob).frozen (p := ⟨w.heap.size + 1, o, none⟩) (show w.heap.size + 1 < w3.heap.size by omega)).trans (j31 o)
  clear hb3 k20 k21 j21
  cases b' with
  | false =>
    have hz := HZ.out
    simp only [Bool.and_self, Bool.not_true, Bool.false_eq_true, if_false, Prod.mk.injEq] at hz
    obtain ⟨rfl, rfl⟩ := hz
    go_wp2_with fail
    refine bodyPost_ret (v := .tuple #[.agg #[.int .i64 0, .int .i64 0, .string ⟨#[]⟩], .int .i64 14]) (by simp [results, Try.results13, go_sem, p31]) rfl ⟨rfl, ?_⟩
    repeat (first | exact Q3.out | refine Below.setCell ?_ (by first | omega | (simp <;> omega)) _ | refine Below.alloc ?_ (by first | omega | (simp <;> omega)) _)
  | true =>
    have hz := HZ.out
    simp only [Bool.and_self, Bool.not_true, Bool.false_eq_true, if_false, if_true, Prod.mk.injEq] at hz
    obtain ⟨rfl, rfl⟩ := hz
    go_wp2_with fail
    refine bodyPost_ret (v := .tuple #[.agg #[.int .i64 u'.k, .int .i64 u'.n, .string u'.t], .int .i64 0]) (by simp [results, Try.results13, go_sem, p31]) rfl ⟨rfl, ?_⟩
    repeat (first | exact Q3.out | refine Below.setCell ?_ (by first | omega | (simp <;> omega)) _ | refine Below.alloc ?_ (by first | omega | (simp <;> omega)) _)

set_option maxHeartbeats 2000000 in
set_option maxRecDepth 20000 in
theorem impl_valueOf (v : Va) (a : Option Addr) (c : Nat) (l : List Ar) (u : Va) (y : Int) (w : World) (hv : v.t.size ≤ 1048576) (hr : ArRow 0 w.heap.size w a l) (hl : l.length ≤ 1048576) (ht : ∀ x ∈ l, ArBd 1048576 x) (hy : valOf v l = (u, y)) :
    Calls Try.prog 15 #[.agg #[.int .i64 v.k, .int .i64 v.n, .string v.t], .slice a l.length c] w fun e w' => e = .returned (.tuple #[.agg #[.int .i64 u.k, .int .i64 u.n, .string u.t], .int .i64 y]) ∧ Below w.heap.size w w' := by
  have HR : Hid (∀ W0, Below w.heap.size w W0 → ArRow 0 W0.heap.size W0 a l) := fun W0 hB => Row.up hr hB
  have HT : Hid (∀ x ∈ l, ArBd 1048576 x) := ht
  have HY : Hid (valOf v l = (u, y)) := hy
  have hv' : v.t.size ≤ maxLen := by unfold maxLen; omega
  clear hr ht hy
  by_cases hbig : 4096 < l.length
  case pos =>
    have hz := HY.out
    unfold valOf at hz
    rw [if_pos hbig] at hz
    simp only [Prod.mk.injEq] at hz
    obtain ⟨rfl, rfl⟩ := hz
    go_enter Try.func15, Try.ntmps15
    go_wp2_with fail
    refine bodyPost_ret (v := .tuple #[.agg #[.int .i64 0, .int .i64 0, .string ⟨#[]⟩], .int .i64 2]) (by simp [results, Try.results15, go_sem]) rfl ⟨rfl, ?_⟩
    repeat (first | exact Below.refl _ _ | refine Below.setCell ?_ (by first | omega | (simp <;> omega)) _ | refine Below.alloc ?_ (by first | omega | (simp <;> omega)) _)
  go_enter Try.func15, Try.ntmps15
  go_wp2_with fail
  refine (impl_val v _ hv').mono ?_
  rintro e w1 ⟨rfl, hb1⟩
  have z1 : w.heap.size + 2 ≤ w1.heap.size := by have := hb1.size; simp at this; omega
  have k10 := fun o => hb1.cell (p := ⟨w.heap.size, o, none⟩) (by first | omega | (simp <;> omega))
  have k11 := fun o => hb1.cell (p := ⟨w.heap.size + 1, o, none⟩) (by first | omega | (simp <;> omega))
  have j11 := fun o => hb1.frozen (p := ⟨w.heap.size + 1, o, none⟩) (by first | omega | (simp <;> omega))
  have Q1 : Hid (Below w.heap.size w w1) := by
    refine Below.trans ?_ (hb1.mono (by first | omega | (simp <;> omega)))
    repeat (first | exact Below.refl _ _ | refine Below.setCell ?_ (by first | omega | (simp <;> omega)) _ | refine Below.alloc ?_ (by first | omega | (simp <;> omega)) _)
  clear hb1
  cases hvb : valB v with
  | false =>
    have hz := HY.out
    unfold valOf at hz
    rw [if_neg hbig, hvb] at hz
    simp only [Bool.false_and, Bool.not_false, if_true, Prod.mk.injEq] at hz
    obtain ⟨rfl, rfl⟩ := hz
    go_wp2_with fail
    refine bodyPost_ret (v := .tuple #[.agg #[.int .i64 0, .int .i64 0, .string ⟨#[]⟩], .int .i64 1]) (by simp [results, Try.results15, go_sem, k11]) rfl ⟨rfl, ?_⟩
    repeat (first | exact Q1.out | refine Below.setCell ?_ (by first | omega | (simp <;> omega)) _ | refine Below.alloc ?_ (by first | omega | (simp <;> omega)) _)
  | true =>
  go_wp2_with fail
  refine (impl_binds a c l _ (HR.out _ Q1.out) hl HT.out).mono ?_
  rintro e w2 ⟨rfl, hb2⟩
  have z2 : w.heap.size + 2 ≤ w2.heap.size := by have := hb2.size; omega
  have k20 := fun o => (hb2.cell (p := ⟨w.heap.size, o, none⟩) (show w.heap.size < w1.heap.size by omega)).trans (k10 o)
  have k21 := fun o => (hb2.cell (p := ⟨w.heap.size + 1, o, none⟩) (show w.heap.size + 1 < w1.heap.size by omega)).trans (k11 o)
  have j21 := fun o => (hb2.frozen (p := ⟨w.heap.size + 1, o, none⟩) (show w.heap.size + 1 < w1.heap.size by omega)).trans (j11 o)
  have Q2 : Hid (Below w.heap.size w w2) := Q1.out.trans (hb2.mono (by omega))
  clear hb2 k10 k11 j11
  cases hbb : bindB l with
  | false =>
    have hz := HY.out
    unfold valOf at hz
    rw [if_neg hbig, hvb, hbb] at hz
    simp only [Bool.and_false, Bool.not_false, if_true, Prod.mk.injEq] at hz
    obtain ⟨rfl, rfl⟩ := hz
    go_wp2_with fail
    refine bodyPost_ret (v := .tuple #[.agg #[.int .i64 0, .int .i64 0, .string ⟨#[]⟩], .int .i64 1]) (by simp [results, Try.results15, go_sem, k21]) rfl ⟨rfl, ?_⟩
    repeat (first | exact Q2.out | refine Below.setCell ?_ (by first | omega | (simp <;> omega)) _ | refine Below.alloc ?_ (by first | omega | (simp <;> omega)) _)
  | true =>
  obtain ⟨u', b', hu'⟩ : ∃ u' b', bval v l = (u', b') := ⟨_, _, rfl⟩
  have hz := HY.out
  unfold valOf at hz
  rw [if_neg hbig, hvb, hbb, hu'] at hz
  have HZ : Hid _ := hz
  have HU : Hid (bval v l = (u', b')) := hu'
  clear hz hu' HY
  go_wp2_with fail
  refine (impl_bound v a c l u' b' _ (HR.out _ Q2.out) hl HU.out).mono ?_
  rintro e w3 ⟨rfl, hb3⟩
  have z3 : w.heap.size + 2 ≤ w3.heap.size := by have := hb3.size; omega
  have k31 := fun o => (hb3.cell (p := ⟨w.heap.size + 1, o, none⟩) (show w.heap.size + 1 < w2.heap.size by omega)).trans (k21 o)
  have j31 := fun o => (hb3.frozen (p := ⟨w.heap.size + 1, o, none⟩) (show w.heap.size + 1 < w2.heap.size by omega)).trans (j21 o)
  have Q3 : Hid (Below w.heap.size w w3) := Q2.out.trans (hb3.mono (by omega))
  have p31 := fun ob o => (((Below.refl w3.heap.size w3).alloc (Nat.le_refl _) ob).cell (p := ⟨w.heap.size + 1, o, none⟩) (show w.heap.size + 1 < w3.heap.size by omega)).trans (k31 o)
  have g31 := fun ob o => (((Below.refl w3.heap.size w3).alloc (Nat.le_refl _) ob).frozen (p := ⟨w.heap.size + 1, o, none⟩) (show w.heap.size + 1 < w3.heap.size by omega)).trans (j31 o)
  clear hb3 k20 k21 j21
  cases b' with
  | false =>
    have hz := HZ.out
    simp only [Bool.and_self, Bool.not_true, Bool.false_eq_true, if_false, Prod.mk.injEq] at hz
    obtain ⟨rfl, rfl⟩ := hz
    go_wp2_with fail
    refine bodyPost_ret (v := .tuple #[.agg #[.int .i64 0, .int .i64 0, .string ⟨#[]⟩], .int .i64 14]) (by simp [results, Try.results15, go_sem, p31]) rfl ⟨rfl, ?_⟩
    repeat (first | exact Q3.out | refine Below.setCell ?_ (by first | omega | (simp <;> omega)) _ | refine Below.alloc ?_ (by first | omega | (simp <;> omega)) _)
  | true =>
    have hz := HZ.out
    simp only [Bool.and_self, Bool.not_true, Bool.false_eq_true, if_false, if_true, Prod.mk.injEq] at hz
    obtain ⟨rfl, rfl⟩ := hz
    go_wp2_with fail
    refine bodyPost_ret (v := .tuple #[.agg #[.int .i64 u'.k, .int .i64 u'.n, .string u'.t], .int .i64 0]) (by simp [results, Try.results15, go_sem, p31]) rfl ⟨rfl, ?_⟩
    repeat (first | exact Q3.out | refine Below.setCell ?_ (by first | omega | (simp <;> omega)) _ | refine Below.alloc ?_ (by first | omega | (simp <;> omega)) _)
end Go.Proofs.Ytdhgojeanebhoaa
