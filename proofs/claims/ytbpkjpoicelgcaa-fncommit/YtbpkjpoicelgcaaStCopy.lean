/- copy into a row that the call owns, of elements of two cells; a chain copied so. -/
import Derived.Test.YtbpkjpoicelgcaaStMark
import Derived.Laws.CopyOwn
namespace Go.Proofs.Ytbpkjpoicelgcaa.G
open Go.ChangeShapes Go.WideShapes Go.ChangeAt Go.RowKit
set_option linter.unusedVariables false

theorem run_copy_two {P : Program} (w : World) (dT sT ty elem : TypeId) (g o dLen dCap : Nat) (a : Addr) (sLen sCap n : Nat) (cur : Array Value) (t : TypeId) (cs : List Value)
    (hu : P.underlying dT = some (.slice elem)) (hs : (P.info? elem).map (·.size) = some 2)
    (hg : w.heap[g]? = some (.cells cur t (0, 0))) (hm : Nat.min sLen dLen = n) (hn : cs.length = n * 2)
    (hsrc : ∀ j v, cs[j]? = some v → w.cell? (a.add j) = some v) (hfit : o + cs.length ≤ cur.size) (h1 : ∀ v ∈ cs, v.oneCell' = true) :
    (Builtin.copy_ #[dT, sT] ty #[.slice (some ⟨g, o, none⟩) dLen dCap, .slice (some a) sLen sCap]).run P w =
      .ok (goInt n) (w.setRow g (cur.toList.take o ++ cs ++ cur.toList.drop (o + cs.length)).toArray) := by
  have hl := run_loadCells_list (P := P) w a cs hsrc
  have hst := run_storeCells_at P g o t cs 0 cur w hg (by simpa using hfit) h1
  rw [hn] at hl
  cases hq : P.info? elem with
  | none => simp [hq] at hs
  | some i =>
    have hi : i.size = 2 := by simpa [hq] using hs
    simp [Builtin.copy_, run_underlying hu, Builtin.lenOf, Builtin.firstCells, sizeOf, typeInfo, hq, hi, hm, hl, hst]
theorem run_copy_two0 {P : Program} (w : World) (dT sT ty elem : TypeId) (g o dCap : Nat) (d a : Option Addr) (sCap : Nat) (hu : P.underlying dT = some (.slice elem)) (hs : (P.info? elem).map (·.size) = some 2) :
    (Builtin.copy_ #[dT, sT] ty #[.slice d 0 dCap, .slice a 0 sCap]).run P w = .ok (goInt 0) w := by
  cases hq : P.info? elem with
  | none => simp [hq] at hs
  | some i =>
    cases a with
    | none => cases d <;> simp [Builtin.copy_, run_underlying hu, Builtin.lenOf, Builtin.firstCells, sizeOf, typeInfo, hq, storeCells]
    | some a =>
      have hl := run_loadCells_list (P := P) w a [] (by simp)
      rw [List.length_nil] at hl
      cases d <;> simp [Builtin.copy_, run_underlying hu, Builtin.lenOf, Builtin.firstCells, sizeOf, typeInfo, hq, hl, storeCells]
/-- The cells of a chain. -/
def veCells (l : List Ve) : List Value := l.flatMap fun x => [.int .i64 x.ts, .int .i64 x.v]
theorem veCells_len (l : List Ve) : (veCells l).length = l.length * 2 := by
  induction l with
  | nil => rfl
  | cons x l ih => simp only [veCells, List.flatMap_cons, List.length_append] at ih ⊢; rw [ih]; simp; omega
theorem veCells_at : ∀ (l : List Ve) (i : Nat) (x : Ve), l[i]? = some x → (veCells l)[i * 2]? = some (.int .i64 x.ts) ∧ (veCells l)[i * 2 + 1]? = some (.int .i64 x.v)
  | [], i, x, h => by simp at h
  | y :: l, 0, x, h => by
    simp only [List.getElem?_cons_zero, Option.some.injEq] at h
    subst h
    simp [veCells]
  | y :: l, i + 1, x, h => by
    have := veCells_at l i x (by simpa using h)
    have e : veCells (y :: l) = .int .i64 y.ts :: .int .i64 y.v :: veCells l := rfl
    rw [e, show (i + 1) * 2 = i * 2 + 1 + 1 by omega, show i * 2 + 1 + 1 + 1 = i * 2 + 1 + 1 + 1 from rfl]
    simp only [List.getElem?_cons_succ]
    exact this
theorem veCells_one (l : List Ve) : ∀ v ∈ veCells l, v.oneCell' = true := by
  intro v hv
  simp only [veCells, List.mem_flatMap, List.mem_cons, List.not_mem_nil, or_false] at hv
  obtain ⟨x, _, rfl | rfl⟩ := hv <;> rfl
theorem veCells_src {w : World} {b o : Nat} {l : List Ve} (h : ∀ i x, l[i]? = some x → VeAt (rdOf w b) (o + i * 2) x) : ∀ j v, (veCells l)[j]? = some v → w.cell? ((⟨b, o, none⟩ : Addr).add j) = some v := by
  intro j v hv
  have hj : j < l.length * 2 := by rw [← veCells_len]; exact (List.getElem?_eq_some_iff.1 hv).1
  have hi : j / 2 < l.length := by omega
  have hx := List.getElem?_eq_getElem hi
  obtain ⟨h0, h1⟩ := h _ _ hx
  obtain ⟨g0, g1⟩ := veCells_at l _ _ hx
  simp only [add_plain]
  by_cases hm : j % 2 = 0
  · have e : j = j / 2 * 2 := by omega
    rw [← e] at g0
    rw [hv] at g0
    rw [← e] at h0
    rw [g0]; exact h0
  · have e : j = j / 2 * 2 + 1 := by omega
    rw [← e] at g1
    rw [hv] at g1
    have h1' : rdOf w b (o + j) = some (.int .i64 l[j / 2].v) := by have := h1; rw [show o + j / 2 * 2 + 1 = o + j by omega] at this; exact this
    rw [g1]; exact h1'
theorem infoS_Ve : (Try.prog.info? 61).map (·.size) = some 2 := by kernel_rfl
set_option maxHeartbeats 2000000 in
theorem copy_chain (a : Option Addr) (c : Nat) (l : List Ve) (w : World) (hr : VeRow 0 w.heap.size w a l) (hl : l.length ≤ 1048576) :
    Calls Try.prog 51 #[.slice a l.length c] w fun e w' => e = .returned (.slice (some ⟨w.heap.size, 0, none⟩) l.length l.length) ∧ VeBlk w' w.heap.size l ∧ Below w.heap.size w w' := by
  obtain ⟨i27, hi, hz, hsz, hby⟩ := info_Ve
  have hmk := run_make (P := Try.prog) w 58 61 i27 _ Try.underlying58 hi hz .i64 .i64 (l.length : Int) (l.length : Int) (by omega) (by omega) (by rw [hby]; omega) (by omega)
  rw [hsz, Int.toNat_natCast] at hmk
  clear hi hz hsz hby
  have hs0 := size_madeCells (Value.agg #[.int .i64 0, .int .i64 0]).cells (l.length * 2)
  generalize madeCells (Value.agg #[.int .i64 0, .int .i64 0]).cells (l.length * 2) = cs0 at *
  obtain ⟨V, hV⟩ : ∃ V, V = w.alloc (.cells cs0 61) := ⟨_, rfl⟩
  have bV : Below w.heap.size w V := by rw [hV]; exact (Below.refl _ _).alloc (Nat.le_refl _) _
  have cV : V.heap[w.heap.size]? = some (.cells cs0 61 (0, 0)) := by rw [hV]; exact heap_alloc_new _ _
  have hrun : ∃ W, (Builtin.copy_ #[58, 58] 3 #[.slice (some ⟨w.heap.size, 0, none⟩) l.length l.length, .slice a l.length c]).run Try.prog V = .ok (goInt l.length) W ∧ VeBlk W w.heap.size l ∧ Below w.heap.size w W := by
    by_cases h0 : l = []
    · subst h0
      exact ⟨V, run_copy_two0 V _ _ _ _ 0 0 _ _ _ _ Try.underlying58 infoS_Ve, ⟨cs0, cV, by simp, fun i x hx => by simp at hx⟩, bV⟩
    · rcases hr with h | ⟨b, o, rfl, _, hb, hx⟩
      · exact absurd h h0
      have hsrc := veCells_src (w := V) (b := b) (o := o) (l := l) (fun i x h => by
        have := hx i x h
        have e : rdOf V b = rdOf w b := (agree bV (Nat.le_refl _)).rd (Nat.zero_le _) hb
        rw [e]; exact this)
      have hlen := veCells_len l
      refine ⟨_, run_copy_two V _ _ _ _ w.heap.size 0 _ _ _ _ _ l.length cs0 _ (veCells l) Try.underlying58 infoS_Ve cV (Nat.min_self _) hlen hsrc (by omega) (veCells_one l), ?_, below_setRow bV (Nat.le_refl _) _⟩
      have hlist : (List.take 0 cs0.toList ++ veCells l ++ List.drop (0 + (veCells l).length) cs0.toList) = veCells l := by
        rw [List.drop_eq_nil_of_le (by simp; omega)]; simp
      rw [hlist]
      refine ⟨_, setRow_heap V w.heap.size cs0 _ _ _ cV, by simp [hlen], fun i x hx => ?_⟩
      obtain ⟨g0, g1⟩ := veCells_at l i x hx
      exact ⟨by simpa using g0, by simpa using g1⟩
  obtain ⟨W, hW, vW, bW⟩ := hrun
  have HV : Hid (VeBlk W w.heap.size l ∧ Below w.heap.size w W) := ⟨vW, bW⟩
  rw [hV] at hW
  clear hr vW bW bV cV hs0 hV
  go_enter Try.func51, Try.ntmps51
  go_wp2_with fail
  go_ret
  exact ⟨rfl, HV.out.1, HV.out.2⟩
end Go.Proofs.Ytbpkjpoicelgcaa.G
