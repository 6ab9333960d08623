/- What the law copies of a document: values, arguments, directives. -/
import Derived.Test.YtiehcmdhfeeomaaSelFrom
namespace Go.Proofs.Ytiehcmdhfeeomaa
open Go.ChangeShapes Go.WideShapes Go.ChangeAt Go.RowKit
set_option linter.unusedVariables false

theorem row_cell {w : World} {N : Nat} {e : TypeId} {cs : Array Value} (h : w.heap[N]? = some (.cells cs e (0, 0))) (j : Nat) : w.cell? ⟨N, j, none⟩ = cs[j]? := cell_of_row w N j cs e _ h
theorem row_frozen {w : World} {N : Nat} {e : TypeId} {cs : Array Value} (h : w.heap[N]? = some (.cells cs e (0, 0))) (j : Nat) : w.frozen? ⟨N, j, none⟩ = false := by
  simp [World.frozen?, h]
theorem row_set {w : World} {N : Nat} {e : TypeId} {cs : Array Value} (h : w.heap[N]? = some (.cells cs e (0, 0))) (j : Nat) (v : Value) : (w.setCell ⟨N, j, none⟩ v).heap[N]? = some (.cells (cs.setIfInBounds j v) e (0, 0)) := by
  rw [setCell_eq_setRow w N j cs e _ v h]; exact setRow_heap w N cs _ e _ h
theorem row_rd {w : World} {N : Nat} {e : TypeId} {cs : Array Value} (h : w.heap[N]? = some (.cells cs e (0, 0))) : rdOf w N = fun j => cs[j]? := by
  funext j; exact row_cell h j
theorem Agree.setCell {lo hi : Nat} {w : World} {p : Addr} {v : Value} (h : p.block < lo) : Agree lo hi w (w.setCell p v) := fun g h1 _ => Below.heap_setCell _ _ _ _ (by omega)
theorem Agree.trans {lo hi : Nat} {w w1 w2 : World} (h : Agree lo hi w w1) (h' : Agree lo hi w1 w2) : Agree lo hi w w2 := fun g h1 h2 => (h' g h1 h2).trans (h g h1 h2)

set_option maxHeartbeats 1000000 in
theorem to_arg (x : Ar) (w : World) :
    Calls Try.prog 98 #[.agg #[.string x.nm, .int .i64 x.v.k, .int .i64 x.v.n, .string x.v.t]] w fun e w' => e = .returned (.agg #[.string x.nm, .int .i64 x.v.k, .int .i64 x.v.n, .string x.v.t]) ∧ Below w.heap.size w w' := by
  go_enter Try.func98, Try.ntmps98
  go_wp2_with fail
  refine (to_val _ _ _ _).mono ?_
  rintro e w1 ⟨rfl, hb1⟩
  obtain ⟨hc1, hf1⟩ := bcell hb1
  have k1 := fun o => hc1 (w.heap.size + 1) o (by simp)
  have k2 := fun o => hc1 (w.heap.size + 1 + 1) o (by simp)
  have hz1 := hb1.size
  have q1 : Below w.heap.size w w1 := by
    refine Below.trans ?_ (hb1.mono (by simp; omega))
    repeat (first | exact Below.refl _ _ | refine Below.setCell ?_ (by simp <;> omega) _ | refine Below.alloc ?_ (by simp <;> omega) _)
  go_wp2_with fail
  refine bodyPost_ret (v := .agg #[.string x.nm, .int .i64 x.v.k, .int .i64 x.v.n, .string x.v.t]) (by simp [results, Try.results98, go_sem, k1]) rfl ⟨rfl, ?_⟩
  repeat (refine Below.setCell ?_ (by simp <;> omega) _)
  exact q1
set_option maxHeartbeats 1000000 in
theorem to_dir (x : Di) (w : World) :
    Calls Try.prog 99 #[.agg #[.bool x.sk, .int .i64 x.v.k, .int .i64 x.v.n, .string x.v.t]] w fun e w' => e = .returned (.agg #[.bool x.sk, .int .i64 x.v.k, .int .i64 x.v.n, .string x.v.t]) ∧ Below w.heap.size w w' := by
  go_enter Try.func99, Try.ntmps99
  go_wp2_with fail
  refine (to_val _ _ _ _).mono ?_
  rintro e w1 ⟨rfl, hb1⟩
  obtain ⟨hc1, hf1⟩ := bcell hb1
  have k1 := fun o => hc1 (w.heap.size + 1) o (by simp)
  have k2 := fun o => hc1 (w.heap.size + 1 + 1) o (by simp)
  have hz1 := hb1.size
  have q1 : Below w.heap.size w w1 := by
    refine Below.trans ?_ (hb1.mono (by simp; omega))
    repeat (first | exact Below.refl _ _ | refine Below.setCell ?_ (by simp <;> omega) _ | refine Below.alloc ?_ (by simp <;> omega) _)
  go_wp2_with fail
  refine bodyPost_ret (v := .agg #[.bool x.sk, .int .i64 x.v.k, .int .i64 x.v.n, .string x.v.t]) (by simp [results, Try.results99, go_sem, k1]) rfl ⟨rfl, ?_⟩
  repeat (refine Below.setCell ?_ (by simp <;> omega) _)
  exact q1

/-- The first k of a row are laid. -/
def LaidR {α : Type} (at_ : (Nat → Option Value) → Nat → α → Prop) (z : Nat) (cs : Array Value) (l : List α) (k : Nat) : Prop := ∀ i x, i < k → l[i]? = some x → at_ (fun j => cs[j]?) (i * z) x
def put4 (cs : Array Value) (k : Nat) (v0 v1 v2 v3 : Value) : Array Value := (((cs.setIfInBounds k v0).setIfInBounds (k + 1) v1).setIfInBounds (k + 2) v2).setIfInBounds (k + 3) v3
theorem put4_size (cs : Array Value) (k : Nat) (v0 v1 v2 v3 : Value) : (put4 cs k v0 v1 v2 v3).size = cs.size := by simp [put4]
theorem put4_at {cs : Array Value} {k : Nat} {v0 v1 v2 v3 : Value} (h : k + 3 < cs.size) : (put4 cs k v0 v1 v2 v3)[k]? = some v0 ∧ (put4 cs k v0 v1 v2 v3)[k + 1]? = some v1 ∧ (put4 cs k v0 v1 v2 v3)[k + 2]? = some v2 ∧ (put4 cs k v0 v1 v2 v3)[k + 3]? = some v3 := by
  unfold put4
  refine ⟨?_, ?_, ?_, ?_⟩ <;> simp [Array.getElem?_setIfInBounds] <;> omega
theorem put4_else {cs : Array Value} {k : Nat} {v0 v1 v2 v3 : Value} {j : Nat} (h : j < k) : (put4 cs k v0 v1 v2 v3)[j]? = cs[j]? := by
  unfold put4
  rw [Array.getElem?_setIfInBounds_ne (by omega), Array.getElem?_setIfInBounds_ne (by omega), Array.getElem?_setIfInBounds_ne (by omega), Array.getElem?_setIfInBounds_ne (by omega)]
theorem LaidR.put_ar {cs : Array Value} {l : List Ar} {k : Nat} (h : LaidR ArAt 4 cs l k) (hk : k < l.length) (hs : cs.size = l.length * 4) : LaidR ArAt 4 (put4 cs (k * 4) (.string l[k].nm) (.int .i64 l[k].v.k) (.int .i64 l[k].v.n) (.string l[k].v.t)) l (k + 1) := by
  intro i x hi hx
  by_cases hik : i = k
  · subst hik
    rw [List.getElem?_eq_getElem hk] at hx
    simp only [Option.some.injEq] at hx
    subst hx
    exact put4_at (by omega)
  · obtain ⟨c0, c1, c2, c3⟩ := h i x (by omega) hx
    exact ⟨(put4_else (by omega)).trans c0, (put4_else (by omega)).trans c1, (put4_else (by omega)).trans c2, (put4_else (by omega)).trans c3⟩
theorem LaidR.put_di {cs : Array Value} {l : List Di} {k : Nat} (h : LaidR DiAt 4 cs l k) (hk : k < l.length) (hs : cs.size = l.length * 4) : LaidR DiAt 4 (put4 cs (k * 4) (.bool l[k].sk) (.int .i64 l[k].v.k) (.int .i64 l[k].v.n) (.string l[k].v.t)) l (k + 1) := by
  intro i x hi hx
  by_cases hik : i = k
  · subst hik
    rw [List.getElem?_eq_getElem hk] at hx
    simp only [Option.some.injEq] at hx
    subst hx
    exact put4_at (by omega)
  · obtain ⟨c0, c1, c2, c3⟩ := h i x (by omega) hx
    exact ⟨(put4_else (by omega)).trans c0, (put4_else (by omega)).trans c1, (put4_else (by omega)).trans c2, (put4_else (by omega)).trans c3⟩
theorem LaidR.row {α : Type} {at_ : (Nat → Option Value) → Nat → α → Prop} {z : Nat} {w : World} {N lo : Nat} {e : TypeId} {cs : Array Value} {l : List α} (h : w.heap[N]? = some (.cells cs e (0, 0))) (hl : LaidR at_ z cs l l.length) (hlo : lo ≤ N) : Row at_ z lo w.heap.size w (some ⟨N, 0, none⟩) l := by
  refine .inr ⟨N, 0, rfl, hlo, (Array.getElem?_eq_some_iff.1 h).1, fun i x hx => ?_⟩
  have hi : i < l.length := (List.getElem?_eq_some_iff.1 hx).1
  rw [row_rd h, Nat.zero_add]
  exact hl i x hi hx

set_option maxRecDepth 100000 in
theorem info_ar : ∃ i, Try.prog.info? 130 = some i ∧ i.zero = some (.agg #[.string ⟨#[]⟩, .int .i64 0, .int .i64 0, .string ⟨#[]⟩]) ∧ i.size = 4 ∧ i.bytes = 48 := by
  refine ⟨_, rfl, ?_, ?_, ?_⟩ <;> kernel_rfl
set_option maxRecDepth 100000 in
theorem info_di : ∃ i, Try.prog.info? 129 = some i ∧ i.zero = some (.agg #[.bool false, .int .i64 0, .int .i64 0, .string ⟨#[]⟩]) ∧ i.size = 4 ∧ i.bytes = 40 := by
  refine ⟨_, rfl, ?_, ?_, ?_⟩ <;> kernel_rfl
set_option maxHeartbeats 1000000 in
theorem to_args (a : Option Addr) (c : Nat) (l : List Ar) (w : World) (hr : ArRow 0 w.heap.size w a l) (hl : l.length ≤ 1048576) :
    Calls Try.prog 90 #[.slice a l.length c] w fun e w' => ∃ a' c', e = .returned (.slice a' l.length c') ∧ ArRow w.heap.size w'.heap.size w' a' l ∧ Below w.heap.size w w' := by
  have HR : Hid (ArRow 0 w.heap.size w a l) := hr
  clear hr
  obtain ⟨i27, hi, hz, hsz, hby⟩ := info_ar
  have hmk := run_make (P := Try.prog) w 105 130 i27 _ Try.underlying105 hi hz .i64 .i64 (l.length : Int) (l.length : Int) (by omega) (by omega) (by rw [hby]; omega) (by omega)
  rw [hsz, Int.toNat_natCast] at hmk
  clear hi hz hsz hby
  have hs0 := size_madeCells (Value.agg #[.string ⟨#[]⟩, .int .i64 0, .int .i64 0, .string ⟨#[]⟩]).cells (l.length * 4)
  generalize madeCells (Value.agg #[.string ⟨#[]⟩, .int .i64 0, .int .i64 0, .string ⟨#[]⟩]).cells (l.length * 4) = cs0 at *
  go_enter Try.func90, Try.ntmps90
  go_wp2_with fail
  go_loopw [4] (fun i w' => ∃ (k : Nat) (cs : Array Value), k ≤ l.length ∧ i = .int .i64 k ∧ Below w.heap.size w w' ∧ Hid (w'.heap[w.heap.size]? = some (.cells cs 130 (0, 0))) ∧ cs.size = l.length * 4 ∧ Hid (LaidR ArAt 4 cs l k)) (fun i _ => l.length - (intOf i).toNat)
  case atStart => exact ⟨0, cs0, by omega, rfl, (Below.refl _ _).alloc (Nat.le_refl _) _, heap_alloc_new _ _, hs0, fun i x h => by omega⟩
  case round =>
    rename_i wr
    obtain ⟨k, cs, hk, rfl, hb, HH, hcs, HL⟩ := hrel
    clear hmk hs0
    by_cases hlt : k < l.length
    · obtain ⟨b, o, ha, _, hbl, c0, c1, c2, c3⟩ := (HR.out.keep (Below.agree hb (Nat.le_refl _))).cells_ar k hlt
      subst ha
      go_wp2_with fail
      refine (to_arg l[k] _).mono ?_
      rintro e w1 ⟨rfl, hb1⟩
      have hN : w.heap.size < wr.heap.size := (Array.getElem?_eq_some_iff.1 HH.out).1
      have HH1 : Hid (w1.heap[w.heap.size]? = some (.cells cs 130 (0, 0))) := (hb1.block _ hN).trans HH.out
      obtain ⟨v0, hv0⟩ : ∃ v, w1.cell? ⟨w.heap.size, k * 4, none⟩ = some v := ⟨_, (row_cell HH1.out _).trans (Array.getElem?_eq_getElem (by omega))⟩
      obtain ⟨v1, hv1⟩ : ∃ v, w1.cell? ⟨w.heap.size, k * 4 + 1, none⟩ = some v := ⟨_, (row_cell HH1.out _).trans (Array.getElem?_eq_getElem (by omega))⟩
      obtain ⟨v2, hv2⟩ : ∃ v, w1.cell? ⟨w.heap.size, k * 4 + 2, none⟩ = some v := ⟨_, (row_cell HH1.out _).trans (Array.getElem?_eq_getElem (by omega))⟩
      obtain ⟨v3, hv3⟩ : ∃ v, w1.cell? ⟨w.heap.size, k * 4 + 3, none⟩ = some v := ⟨_, (row_cell HH1.out _).trans (Array.getElem?_eq_getElem (by omega))⟩
      have hf0 := row_frozen HH1.out (k * 4)
      have hf1 := row_frozen HH1.out (k * 4 + 1)
      have hf2 := row_frozen HH1.out (k * 4 + 2)
      have hf3 := row_frozen HH1.out (k * 4 + 3)
      clear c0 c1 c2 c3
      have qb := hb.trans (hb1.mono hb.size)
      go_wp2_with fail
      exact ⟨⟨k + 1, put4 cs (k * 4) _ _ _ _, by omega, by go_num, (((qb.setCell (Nat.le_refl _) _).setCell (Nat.le_refl _) _).setCell (Nat.le_refl _) _).setCell (Nat.le_refl _) _, row_set (row_set (row_set (row_set HH1.out _ _) _ _) _ _) _ _, by rw [put4_size]; exact hcs, HL.out.put_ar hlt hcs⟩, by simp [intOf]; omega⟩
    · go_wp2_with fail
      go_ret
      obtain rfl : k = l.length := by omega
      exact ⟨_, _, rfl, LaidR.row HH.out HL.out (Nat.le_refl _), hb⟩
set_option maxHeartbeats 1000000 in
theorem to_dirs (a : Option Addr) (c : Nat) (l : List Di) (w : World) (hr : DiRow 0 w.heap.size w a l) (hl : l.length ≤ 1048576) :
    Calls Try.prog 91 #[.slice a l.length c] w fun e w' => ∃ a' c', e = .returned (.slice a' l.length c') ∧ DiRow w.heap.size w'.heap.size w' a' l ∧ Below w.heap.size w w' := by
  have HR : Hid (DiRow 0 w.heap.size w a l) := hr
  clear hr
  obtain ⟨i27, hi, hz, hsz, hby⟩ := info_di
  have hmk := run_make (P := Try.prog) w 106 129 i27 _ Try.underlying106 hi hz .i64 .i64 (l.length : Int) (l.length : Int) (by omega) (by omega) (by rw [hby]; omega) (by omega)
  rw [hsz, Int.toNat_natCast] at hmk
  clear hi hz hsz hby
  have hs0 := size_madeCells (Value.agg #[.bool false, .int .i64 0, .int .i64 0, .string ⟨#[]⟩]).cells (l.length * 4)
  generalize madeCells (Value.agg #[.bool false, .int .i64 0, .int .i64 0, .string ⟨#[]⟩]).cells (l.length * 4) = cs0 at *
  go_enter Try.func91, Try.ntmps91
  go_wp2_with fail
  go_loopw [4] (fun i w' => ∃ (k : Nat) (cs : Array Value), k ≤ l.length ∧ i = .int .i64 k ∧ Below w.heap.size w w' ∧ Hid (w'.heap[w.heap.size]? = some (.cells cs 129 (0, 0))) ∧ cs.size = l.length * 4 ∧ Hid (LaidR DiAt 4 cs l k)) (fun i _ => l.length - (intOf i).toNat)
  case atStart => exact ⟨0, cs0, by omega, rfl, (Below.refl _ _).alloc (Nat.le_refl _) _, heap_alloc_new _ _, hs0, fun i x h => by omega⟩
  case round =>
    rename_i wr
    obtain ⟨k, cs, hk, rfl, hb, HH, hcs, HL⟩ := hrel
    clear hmk hs0
    by_cases hlt : k < l.length
    · obtain ⟨b, o, ha, _, hbl, c0, c1, c2, c3⟩ := (HR.out.keep (Below.agree hb (Nat.le_refl _))).cells_di k hlt
      subst ha
      go_wp2_with fail
      refine (to_dir l[k] _).mono ?_
      rintro e w1 ⟨rfl, hb1⟩
      have hN : w.heap.size < wr.heap.size := (Array.getElem?_eq_some_iff.1 HH.out).1
      have HH1 : Hid (w1.heap[w.heap.size]? = some (.cells cs 129 (0, 0))) := (hb1.block _ hN).trans HH.out
      obtain ⟨v0, hv0⟩ : ∃ v, w1.cell? ⟨w.heap.size, k * 4, none⟩ = some v := ⟨_, (row_cell HH1.out _).trans (Array.getElem?_eq_getElem (by omega))⟩
      obtain ⟨v1, hv1⟩ : ∃ v, w1.cell? ⟨w.heap.size, k * 4 + 1, none⟩ = some v := ⟨_, (row_cell HH1.out _).trans (Array.getElem?_eq_getElem (by omega))⟩
      obtain ⟨v2, hv2⟩ : ∃ v, w1.cell? ⟨w.heap.size, k * 4 + 2, none⟩ = some v := ⟨_, (row_cell HH1.out _).trans (Array.getElem?_eq_getElem (by omega))⟩
      obtain ⟨v3, hv3⟩ : ∃ v, w1.cell? ⟨w.heap.size, k * 4 + 3, none⟩ = some v := ⟨_, (row_cell HH1.out _).trans (Array.getElem?_eq_getElem (by omega))⟩
      have hf0 := row_frozen HH1.out (k * 4)
      have hf1 := row_frozen HH1.out (k * 4 + 1)
      have hf2 := row_frozen HH1.out (k * 4 + 2)
      have hf3 := row_frozen HH1.out (k * 4 + 3)
      clear c0 c1 c2 c3
      have qb := hb.trans (hb1.mono hb.size)
      go_wp2_with fail
      exact ⟨⟨k + 1, put4 cs (k * 4) _ _ _ _, by omega, by go_num, (((qb.setCell (Nat.le_refl _) _).setCell (Nat.le_refl _) _).setCell (Nat.le_refl _) _).setCell (Nat.le_refl _) _, row_set (row_set (row_set (row_set HH1.out _ _) _ _) _ _) _ _, by rw [put4_size]; exact hcs, HL.out.put_di hlt hcs⟩, by simp [intOf]; omega⟩
    · go_wp2_with fail
      go_ret
      obtain rfl : k = l.length := by omega
      exact ⟨_, _, rfl, LaidR.row HH.out HL.out (Nat.le_refl _), hb⟩
end Go.Proofs.Ytiehcmdhfeeomaa
