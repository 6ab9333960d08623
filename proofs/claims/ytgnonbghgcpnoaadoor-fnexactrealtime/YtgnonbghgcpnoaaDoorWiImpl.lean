/- The program's witness. -/
import Derived.Test.YtgnonbghgcpnoaaDoorWiStab
import Derived.Test.YtgnonbghgcpnoaaDoorWiOrd
namespace Go.Proofs.YtgnonbghgcpnoaaDoor
open Go.ChangeShapes Go.WideShapes Go.ChangeAt Go.RowKit
open Go.Shelf Go.Lib Go.Sort
set_option linter.unusedVariables false

theorem CmL.cms {l : List Dn} {k : Nat} {es : List (List Value)} (h : CmL l k es) : ∃ cs : List Cm, es = cs.map cmV ∧ cs.map (fun e => (e.p : Int)) = comP l k ∧ ∀ e ∈ cs, ∃ hp : e.p < l.length, e.x = l[e.p] := by
  induction h with
  | nil => exact ⟨[], rfl, rfl, by simp⟩
  | skip h hc ih => rw [comP, if_neg (by rw [hc]; decide)]; exact ih
  | @more k es e h hk hc he ih =>
    obtain ⟨cs, h1, h2, h3⟩ := ih
    obtain ⟨a, c, b, d, rfl⟩ := he
    refine ⟨cs ++ [⟨l[k], k, a, c, b, d⟩], by simp [h1, cmV], by rw [comP, if_pos hc, ← h2]; simp, fun e he => ?_⟩
    simp only [List.mem_append, List.mem_singleton] at he
    rcases he with he | rfl
    · exact h3 e he
    · exact ⟨hk, rfl⟩
/-- Those of some places can be read from a row. -/
def RdC (l : List Dn) (w : World) (av : Option Addr) (ps : List Int) : Prop := ∀ k, k < ps.length → ∃ (g : Nat) (x : Dn) (a : Option Addr) (c : Nat) (b : Option Addr) (d p : Nat), av = some ⟨g, 0, none⟩ ∧ g < w.heap.size ∧ ps[k]? = some (p : Int) ∧ (∃ hp : p < l.length, x = l[p]) ∧
  w.cell? ⟨g, k * 9, none⟩ = some (.int .i64 x.id) ∧ w.cell? ⟨g, k * 9 + 1, none⟩ = some (.int .i64 x.code) ∧ w.cell? ⟨g, k * 9 + 2, none⟩ = some (.int .i64 x.ts) ∧ w.cell? ⟨g, k * 9 + 3, none⟩ = some (.int .i64 x.since) ∧ w.cell? ⟨g, k * 9 + 4, none⟩ = some (.bool x.wr) ∧ w.cell? ⟨g, k * 9 + 5, none⟩ = some (.slice a x.defs.length c) ∧ w.cell? ⟨g, k * 9 + 6, none⟩ = some (.slice b x.vars.length d) ∧ w.cell? ⟨g, k * 9 + 7, none⟩ = some (.string x.t) ∧ w.cell? ⟨g, k * 9 + 8, none⟩ = some (.int .i64 p)
theorem RdC.up {l : List Dn} {w w' : World} {av : Option Addr} {ps : List Int} (h : RdC l w av ps) (hb : Below w.heap.size w w') : RdC l w' av ps := fun k hk => by
  obtain ⟨g, x, a, c, b, d, p, e, e1, e2, e3, c0, c1, c2, c3, c4, c5, c6, c7, c8⟩ := h k hk
  have G := fun o => hb.cell (p := ⟨g, o, none⟩) e1
  exact ⟨g, x, a, c, b, d, p, e, Nat.lt_of_lt_of_le e1 hb.size, e2, e3, (G _).trans c0, (G _).trans c1, (G _).trans c2, (G _).trans c3, (G _).trans c4, (G _).trans c5, (G _).trans c6, (G _).trans c7, (G _).trans c8⟩
theorem SWK.below {w W : World} {g N : Nat} {d : Array Cm} (h : SWK cmV 9 w g 0 d W) (hN : N ≤ g) (hg : g < w.heap.size) : Below N w W := by
  obtain ⟨n, os, rfl⟩ := h
  refine ⟨rfl, rfl, rfl, ?_, fun k hk => ?_⟩
  · simp [sortWorldK, putRowK, putRow, mapBlock, Sort.ahead]
  · unfold sortWorldK
    rw [heap_grow_old _ _ (by simp [putRowK, putRow, mapBlock, Sort.ahead]; omega)]
    simp only [putRowK, putRow, mapBlock, Sort.ahead, Array.getElem?_modify]
    rw [if_neg (by omega)]
theorem flatc_get : ∀ (zs : List Cm) (j : Nat), j < zs.length * 9 → (zs.map cmV).flatten[j]? = some ((cmV zs[j / 9]!)[j % 9]!)
  | [], j, h => by simp at h
  | x :: zs, j, h => by
    rw [List.map_cons, List.flatten_cons]
    by_cases hj : j < 9
    · rw [List.getElem?_append_left (by simpa [cmV] using hj), Nat.div_eq_of_lt hj, Nat.mod_eq_of_lt hj]
      have : j = 0 ∨ j = 1 ∨ j = 2 ∨ j = 3 ∨ j = 4 ∨ j = 5 ∨ j = 6 ∨ j = 7 ∨ j = 8 := by omega
      rcases this with rfl | rfl | rfl | rfl | rfl | rfl | rfl | rfl | rfl <;> simp [cmV]
    · rw [List.getElem?_append_right (by simp [cmV]; omega)]
      have hl : (cmV x).length = 9 := rfl
      rw [hl, flatc_get zs (j - 9) (by simp at h; omega)]
      have e1 : j / 9 = (j - 9) / 9 + 1 := by omega
      have e2 : j % 9 = (j - 9) % 9 := by omega
      rw [e1, e2]
      simp
theorem cm_row {w : World} {base : Nat} {v : Value} {zs : List Cm} (h : w.ownsRow base 68 9 v zs.length (zs.map cmV).flatten) (hn : 0 < zs.length) : ∃ g cap, v = .slice (some ⟨g, 0, none⟩) zs.length cap ∧ base ≤ g ∧ RC w g zs.toArray ∧ zs.length ≤ cap := by
  rcases h.2 with ⟨_, h0⟩ | ⟨g, cap, cur, rfl, h1, h2, h3, h4, h5, h6⟩
  · omega
  · refine ⟨g, cap, rfl, h1, ⟨fun _ => rfl, cm_one, ?_, (Array.getElem?_eq_some_iff.1 h2).1⟩, h3⟩
    intro j hj
    rw [size_flatK] at hj
    simp only [List.size_toArray] at hj
    have h7 := flatc_get zs j hj
    rw [← h6, List.getElem?_take_of_lt hj, Array.getElem?_toList] at h7
    refine ⟨?_, row_frozen h2 _⟩
    rw [Nat.zero_add, row_cell h2 j, h7, get_flatK _ _ _ _ (by simpa using hj)]
    simp
set_option maxHeartbeats 2000000 in
theorem ins_none (c : Nat) (w : World) : Calls Tryd.prog 68 #[.slice none 0 c, .int .i64 0, .int .i64 0, .func (.func 42) #[] #[]] w fun e w' => e = .returned (.tuple #[]) ∧ w' = w := by
  go_enter Tryd.func68, Tryd.ntmps68
  go_wp2_with fail
  go_loopw [8] (fun vi wr => vi = .int .i64 1 ∧ wr = w) (fun _ _ => 0)
  case atStart => exact ⟨rfl, rfl⟩
  case round =>
    obtain ⟨rfl, rfl⟩ := hrel
    go_wp2_with fail
    go_end0
    exact ⟨rfl, rfl⟩
set_option maxHeartbeats 2000000 in
theorem stable_none (c : Nat) (w : World) : Calls Tryd.prog 61 #[.slice none 0 c, .int .i64 0, .func (.func 42) #[] #[]] w fun e w' => e = .returned (.tuple #[]) ∧ w' = w := by
  go_enter Tryd.func61, Tryd.ntmps61
  go_wp2_with fail
  go_loopw [7, 8] (fun va vb wr => va = .int .i64 0 ∧ vb = .int .i64 20 ∧ wr = w) (fun _ _ _ => 0)
  case atStart => exact ⟨rfl, rfl, rfl⟩
  case round =>
    obtain ⟨rfl, rfl, rfl⟩ := hrel
    go_wp2_with fail
    refine (ins_none c _).mono ?_
    rintro e w1 ⟨rfl, rfl⟩
    go_wp2_with fail
    go_loopw [6] (fun vb wr => vb = .int .i64 20 ∧ wr = w1) (fun _ _ => 0)
    case atStart => exact ⟨rfl, rfl⟩
    case round =>
      obtain ⟨rfl, rfl⟩ := hrel
      go_wp2_with fail
      go_end0
      exact ⟨rfl, rfl⟩
theorem vw_at {zs : List Cm} {i : Nat} (h : i < zs.length) : vw zs.toArray i = zs[i] := by
  unfold vw; simp [h]
theorem vd_at {d : Array Cm} {i : Nat} (h : i < d.size) : vw d i = d[i] := by
  unfold vw; simp [h]
/-- A row of those that are committed, in the witness's order. -/
theorem wit_rows {l : List Dn} {zs : List Cm} {d' : Array Cm} (h2 : zs.map (fun e => (e.p : Int)) = comP l l.length) (h3 : ∀ e ∈ zs, ∃ hp : e.p < l.length, e.x = l[e.p]) (hd : d'.size = zs.length) (hm : Mv 0 zs.length (vw zs.toArray) (vw d')) (hs : SoL 0 zs.length (vw d')) :
    d'.toList.map (fun e => (e.p : Int)) = witP l ∧ ∀ e ∈ d'.toList, ∃ hp : e.p < l.length, e.x = l[e.p] := by
  have hin : ∀ e ∈ d'.toList, e ∈ zs := fun e he => by
    obtain ⟨i, hi, rfl⟩ := List.getElem_of_mem he
    have hi' : i < d'.size := by simpa using hi
    obtain ⟨j, _, q2, q3⟩ := hm.mem (i := i) (Nat.zero_le _) (by omega)
    rw [vd_at hi', vw_at q2] at q3
    rw [Array.getElem_toList, q3]
    exact List.getElem_mem q2
  have hx : ∀ e ∈ d'.toList, ∃ hp : e.p < l.length, e.x = l[e.p] := fun e he => h3 e (hin e he)
  have hg : ∀ e ∈ d'.toList, gD l (e.p : Int) = e.x := fun e he => by
    obtain ⟨hp, e1⟩ := hx e he
    unfold gD; rw [Int.toNat_natCast, List.getElem?_eq_getElem hp, e1]; rfl
  refine ⟨wit_of ?_ fun z => ⟨fun hz => ?_, fun hz => ?_⟩, hx⟩
  · rw [List.pairwise_map]
    refine List.pairwise_iff_getElem.2 fun i j hi hj hij => ?_
    have hi' : i < d'.size := by simpa using hi
    have hj' : j < d'.size := by simpa using hj
    have q := hs i j (Nat.zero_le _) hij (by omega)
    rw [vd_at hi', vd_at hj'] at q
    have g1 := hg d'.toList[i] (List.getElem_mem hi)
    have g2 := hg d'.toList[j] (List.getElem_mem hj)
    simp only [Array.getElem_toList] at g1 g2 ⊢
    unfold LtZ
    rw [g1, g2]
    unfold Lt Kl at q
    omega
  · obtain ⟨e, he, rfl⟩ := List.mem_map.1 hz
    rw [← h2]
    exact List.mem_map_of_mem (hin e he)
  · rw [← h2] at hz
    obtain ⟨e, he, rfl⟩ := List.mem_map.1 hz
    obtain ⟨j, hj, rfl⟩ := List.getElem_of_mem he
    obtain ⟨i, _, q2, q3⟩ := hm.inv (j := j) (Nat.zero_le _) hj
    rw [vd_at (show i < d'.size by omega), vw_at hj] at q3
    rw [← q3]
    exact List.mem_map_of_mem (by simp)
end Go.Proofs.YtgnonbghgcpnoaaDoor
