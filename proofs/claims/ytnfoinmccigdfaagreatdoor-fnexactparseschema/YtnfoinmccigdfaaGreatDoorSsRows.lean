/- Types in rows of their own, as the marks want them: block by block, none twice. -/
import Derived.Test.YtnfoinmccigdfaaGreatDoorSsLex
import Derived.Test.YtnfoinmccigdfaaGreatDoorSpSchema
import Derived.Test.YtnfoinmccigdfaaGreatDoorSchOwn
namespace Go.Proofs.YtnfoinmccigdfaaGreatDoor
open Go.ChangeShapes Go.WideShapes Go.ChangeAt Go.RowKit
set_option linter.unusedVariables false

theorem agVs_flat : ∀ l : List G.Ag, agVs l = l.flatMap fun x => [.string x.nm, .bool x.need]
  | [] => rfl
  | x :: l => by rw [agVs, agVs_flat l]; rfl
theorem fdVs_flat : ∀ l : List (G.Fd × Value), fdVs l = l.flatMap fun p => [.string p.1.nm, p.2, .string p.1.ty, .bool p.1.ls, .bool p.1.bg]
  | [] => rfl
  | x :: l => by rw [fdVs, fdVs_flat l]; rfl
theorem tdVs_flat : ∀ l : List Ty, tdVs l = l.flatMap fun t => [.string t.1, t.2.1]
  | [] => rfl
  | x :: l => by rw [tdVs, tdVs_flat l]; rfl
/-- A row's cells, one by one. -/
theorem own_cells {α : Type} {f : α → List Value} {z : Nat} (hz : ∀ x, (f x).length = z) {W : World} {base : Nat} {e : TypeId} {v : Value} {l : List α} (hl : l ≠ []) (ho : W.ownsRow base e z v l.length (l.flatMap f)) :
    ∃ g c cs, v = .slice (some ⟨g, 0, none⟩) l.length c ∧ v.ownBlock = some g ∧ base ≤ g ∧ g < W.heap.size ∧ W.heap[g]? = some (.cells cs e (0, 0)) ∧ l.length * z ≤ cs.size ∧ ∀ i x, l[i]? = some x → ∀ j, j < z → cs[i * z + j]? = (f x)[j]? := by
  rcases ho.2 with ⟨_, h0⟩ | ⟨g, cap, cur, rfl, hb, hc, hn, _, hs, _⟩
  · exact absurd (List.length_eq_zero_iff.1 h0) hl
  · refine ⟨g, cap, cur, rfl, rfl, hb, (Array.getElem?_eq_some_iff.1 hc).1, hc, by rw [hs]; exact Nat.mul_le_mul_right _ hn, fun i x hx j hj => ?_⟩
    have hi : i < l.length := (List.getElem?_eq_some_iff.1 hx).1
    rw [← flat_at hz l i x hx j hj]
    have hlt : i * z + j < l.length * z := by
      have : (i + 1) * z ≤ l.length * z := Nat.mul_le_mul_right _ hi
      rw [Nat.succ_mul] at this
      omega
    exact (row_cell hc (i * z + j)).symm.trans (ho.cellAt (i * z + j) hlt)
theorem own_slice {W : World} {base z n : Nat} {e : TypeId} {v : Value} {xs : List Value} (ho : W.ownsRow base e z v n xs) : ∃ a c, v = .slice a n c := by
  rcases ho.2 with ⟨rfl, rfl⟩ | ⟨g, cap, cur, rfl, _⟩
  · exact ⟨_, _, rfl⟩
  · exact ⟨_, _, rfl⟩
def agBs (v : Value) (l : List G.Ag) : List Nat := if l = [] then [] else v.ownBlock.toList
theorem agBs_mem {v : Value} {l : List G.Ag} {g : Nat} (h : g ∈ agBs v l) : v.ownBlock = some g := by
  unfold agBs at h
  split at h
  · simp at h
  · simpa using h
theorem opt_nodup (o : Option Nat) : o.toList.Nodup := by cases o <;> simp
theorem agBs_nodup (v : Value) (l : List G.Ag) : (agBs v l).Nodup := by
  unfold agBs
  split
  · exact List.nodup_nil
  · exact opt_nodup _
theorem ag_own {W : World} {base : Nat} {v : Value} {l : List G.Ag} (ho : W.ownsRow base 79 2 v l.length (agVs l)) : ∃ a c, v = .slice a l.length c ∧ G.AgOwn W a l (agBs v l) := by
  by_cases h0 : l = []
  · obtain ⟨a, c, rfl⟩ := own_slice ho
    exact ⟨a, c, rfl, .inl ⟨h0, by unfold agBs; rw [if_pos h0]⟩⟩
  · rw [agVs_flat] at ho
    obtain ⟨g, c, cs, rfl, hb, _, _, hc, hs, hx⟩ := own_cells (z := 2) (fun x => rfl) h0 ho
    refine ⟨_, _, rfl, .inr ⟨g, cs, rfl, ?_, hc, hs, fun i x h => ⟨hx i x h 0 (by omega), hx i x h 1 (by omega)⟩⟩⟩
    unfold agBs; rw [if_neg h0, hb]; rfl
def fdBs (v : Value) (ps : List (G.Fd × Value)) : List Nat := if ps = [] then [] else v.ownBlock.toList ++ (ps.map fun p => agBs p.2 p.1.args).flatten
theorem fdBs_mem {v : Value} {ps : List (G.Fd × Value)} {g : Nat} (h : g ∈ fdBs v ps) : blkF v ps g := by
  unfold fdBs at h
  split at h
  · simp at h
  · rcases List.mem_append.1 h with h | h
    · exact .inl (by simpa using h)
    · obtain ⟨s, hs, hg⟩ := List.mem_flatten.1 h
      obtain ⟨p, hp, rfl⟩ := List.mem_map.1 hs
      obtain ⟨i, hi, rfl⟩ := List.getElem_of_mem hp
      exact .inr ⟨i, hi, agBs_mem hg⟩
theorem nodup_flat {α : Type} {f : α → List Nat} {l : List α} (h1 : ∀ x ∈ l, (f x).Nodup) (h2 : ∀ i j (hi : i < l.length) (hj : j < l.length), i ≠ j → ∀ g, g ∈ f l[i] → ¬ g ∈ f l[j]) : (l.map f).flatten.Nodup := by
  unfold List.Nodup
  rw [List.pairwise_flatten]
  refine ⟨fun s hs => ?_, ?_⟩
  · obtain ⟨x, hx, rfl⟩ := List.mem_map.1 hs
    exact h1 x hx
  · rw [List.pairwise_map, List.pairwise_iff_getElem]
    intro i j hi hj hij x hx y hy e
    subst e
    exact h2 i j hi hj (by omega) x hx hy
theorem fdBs_nodup {W : World} {base : Nat} {v : Value} {ps : List (G.Fd × Value)} (h : FdsAt base W v ps) : (fdBs v ps).Nodup := by
  unfold fdBs
  split
  · exact List.nodup_nil
  · unfold List.Nodup
    rw [List.pairwise_append]
    refine ⟨opt_nodup _, nodup_flat (fun p _ => agBs_nodup _ _) (fun i j hi hj hij g hg hg' => h.apart i j hi hj hij g (agBs_mem hg) (agBs_mem hg')), fun x hx y hy e => ?_⟩
    subst e
    obtain ⟨s, hs, hg⟩ := List.mem_flatten.1 hy
    obtain ⟨p, hp, rfl⟩ := List.mem_map.1 hs
    obtain ⟨i, hi, rfl⟩ := List.getElem_of_mem hp
    exact own_types (h.each i hi) h.own (by decide) (agBs_mem hg) (by simpa using hx)
theorem fd_own {W : World} {base : Nat} {v : Value} {ps : List (G.Fd × Value)} (h : FdsAt base W v ps) : ∃ a c, v = .slice a ps.length c ∧ G.FdOwn W a (ps.map (·.1)) (fdBs v ps) := by
  by_cases h0 : ps = []
  · obtain ⟨a, c, rfl⟩ := own_slice h.own
    exact ⟨a, c, rfl, .inl ⟨by rw [h0]; rfl, by unfold fdBs; rw [if_pos h0]⟩⟩
  · have ho := h.own
    rw [fdVs_flat] at ho
    obtain ⟨g, c, cs, hv, hb, _, _, hc, hs, hx⟩ := own_cells (z := 5) (fun x => rfl) h0 ho
    refine ⟨_, _, hv, .inr ⟨g, cs, ps.map fun p => agBs p.2 p.1.args, rfl, ?_, by simp, hc, by simpa using hs, fun i x s h1 h2 => ?_⟩⟩
    · unfold fdBs; rw [if_neg h0, hb]; rfl
    · rw [List.getElem?_map, Option.map_eq_some_iff] at h1 h2
      obtain ⟨p, hp, rfl⟩ := h1
      obtain ⟨p', hp', rfl⟩ := h2
      rw [hp] at hp'
      simp only [Option.some.injEq] at hp'
      subst hp'
      have hi : i < ps.length := (List.getElem?_eq_some_iff.1 hp).1
      have he := h.each i hi
      rw [show ps[i] = p from by rw [List.getElem?_eq_getElem hi] at hp; simpa using hp] at he
      obtain ⟨a3, c3, e3, o3⟩ := ag_own he
      refine ⟨⟨hx i p hp 0 (by omega), hx i p hp 2 (by omega), hx i p hp 3 (by omega), hx i p hp 4 (by omega)⟩, a3, c3, ?_, o3⟩
      have := hx i p hp 1 (by omega)
      rw [this, ← e3]; rfl
def tdBs (V : Value) (ts : List Ty) : List Nat := if ts = [] then [] else V.ownBlock.toList ++ (ts.map fun t => fdBs t.2.1 t.2.2).flatten
theorem tdBs_nodup {W : World} {base : Nat} {V : Value} {ts : List Ty} (h : TdsAt base W V ts) : (tdBs V ts).Nodup := by
  unfold tdBs
  split
  · exact List.nodup_nil
  · unfold List.Nodup
    rw [List.pairwise_append]
    refine ⟨opt_nodup _, nodup_flat (fun t ht => ?_) (fun i j hi hj hij g hg hg' => h.apart i j hi hj hij g (fdBs_mem hg) (fdBs_mem hg')), fun x hx y hy e => ?_⟩
    · obtain ⟨i, hi, rfl⟩ := List.getElem_of_mem ht
      exact fdBs_nodup (h.each i hi)
    · subst e
      obtain ⟨s, hs, hg⟩ := List.mem_flatten.1 hy
      obtain ⟨t, ht, rfl⟩ := List.mem_map.1 hs
      obtain ⟨i, hi, rfl⟩ := List.getElem_of_mem ht
      exact (h.each i hi).off h.own (by decide) (by decide) (fdBs_mem hg) (by simpa using hx)
theorem tdBs_in {W : World} {base : Nat} {V : Value} {ts : List Ty} (h : TdsAt base W V ts) : ∀ g ∈ tdBs V ts, base ≤ g ∧ g < W.heap.size := by
  intro g hg
  unfold tdBs at hg
  split at hg
  · simp at hg
  · rcases List.mem_append.1 hg with hg | hg
    · exact World.ownsRow.lt h.own g (by simpa using hg)
    · obtain ⟨s, hs, hg⟩ := List.mem_flatten.1 hg
      obtain ⟨t, ht, rfl⟩ := List.mem_map.1 hs
      obtain ⟨i, hi, rfl⟩ := List.getElem_of_mem ht
      exact (h.each i hi).blk (fdBs_mem hg)
theorem td_own {W : World} {base : Nat} {V : Value} {ts : List Ty} (h : TdsAt base W V ts) : ∃ a c, V = .slice a ts.length c ∧ G.TdOwn W a (ts.map tyD) (tdBs V ts) := by
  by_cases h0 : ts = []
  · obtain ⟨a, c, rfl⟩ := own_slice h.own
    exact ⟨a, c, rfl, .inl ⟨by rw [h0]; rfl, by unfold tdBs; rw [if_pos h0]⟩⟩
  · have ho := h.own
    rw [tdVs_flat] at ho
    obtain ⟨g, c, cs, hv, hb, _, _, hc, hs, hx⟩ := own_cells (z := 2) (fun x => rfl) h0 ho
    refine ⟨_, _, hv, .inr ⟨g, cs, ts.map fun t => fdBs t.2.1 t.2.2, rfl, ?_, by simp, hc, by simpa using hs, fun i x s h1 h2 => ?_⟩⟩
    · unfold tdBs; rw [if_neg h0, hb]; rfl
    · rw [List.getElem?_map, Option.map_eq_some_iff] at h1 h2
      obtain ⟨p, hp, rfl⟩ := h1
      obtain ⟨p', hp', rfl⟩ := h2
      rw [hp] at hp'
      simp only [Option.some.injEq] at hp'
      subst hp'
      have hi : i < ts.length := (List.getElem?_eq_some_iff.1 hp).1
      have he := h.each i hi
      rw [show ts[i] = p from by rw [List.getElem?_eq_getElem hi] at hp; simpa using hp] at he
      obtain ⟨a3, c3, e3, o3⟩ := fd_own he
      refine ⟨hx i p hp 0 (by omega), a3, c3, ?_, o3⟩
      have := hx i p hp 1 (by omega)
      have e4 : (tyD p).fs.length = p.2.2.length := by simp [tyD]
      rw [this, e4, ← e3]; rfl
/-- All of it that is told is bounded by the tokens. -/
theorem nm_bd {l : List Tk} {m : Nat} (h : TkBd m l) (i : Nat) : (nmI l i).size ≤ m := by
  unfold nmI nxT
  by_cases hi : i < l.length
  · rw [List.getElem?_eq_getElem hi]
    simp only
    split
    · exact h _ (List.getElem_mem hi)
    · exact Nat.zero_le _
  · rw [List.getElem?_eq_none (by omega)]
    simp only
    rw [if_neg (by decide)]
    exact Nat.zero_le _
theorem many_len {α : Type} {st : Nat → Bool} {one : Nat → Option (α × Nat) → Prop} {n : Nat} (hu : ∀ i x j, one i (some (x, j)) → i < j) (hs : ∀ i, st i = true → i ≤ n) {i : Nat} {r : Option (List α × Nat)} (h : Many st one i r) : ∀ xs k, r = some (xs, k) → i + xs.length ≤ n := by
  induction h with
  | stop h1 => intro xs k e; cases e; simpa using hs _ h1
  | bad _ _ => intro xs k e; cases e
  | next _ _ _ => intro xs k e; cases e
  | more h1 h2 h3 ih =>
    intro xs k e
    cases e
    have := ih _ _ rfl
    have := hu _ _ _ h2
    simp only [List.length_cons]; omega
theorem many_all {α : Type} {st : Nat → Bool} {one : Nat → Option (α × Nat) → Prop} {p : α → Prop} (hp : ∀ i x j, one i (some (x, j)) → p x) {i : Nat} {r : Option (List α × Nat)} (h : Many st one i r) : ∀ xs k, r = some (xs, k) → ∀ x ∈ xs, p x := by
  induction h with
  | stop h1 => intro xs k e; cases e; simp
  | bad _ _ => intro xs k e; cases e
  | next _ _ _ => intro xs k e; cases e
  | more h1 h2 h3 ih =>
    intro xs k e x hx
    cases e
    rcases List.mem_cons.1 hx with rfl | hx
    · exact hp _ _ _ h2
    · exact ih _ _ rfl x hx
theorem tkE_lt {l : List Tk} {i : Nat} {t : ByteArray} (h : tkE (nxT l i) ⟨4, 0, t⟩ = true) : i < l.length := by
  refine Nat.lt_of_not_le fun hle => ?_
  unfold nxT at h
  rw [List.getElem?_eq_none (by omega)] at h
  simp [tkE] at h
theorem pAg_bd {l : List Tk} {m : Nat} (h : TkBd m l) {i j : Nat} {x : G.Ag} (hx : pAg l i = some (x, j)) : G.AgBd m x := by
  unfold pAg at hx
  split at hx
  · cases hx
  · split at hx
    · cases hx
    · split at hx
      · cases hx
      · simp only [Option.some.injEq, Prod.mk.injEq] at hx
        rw [← hx.1]
        exact nm_bd h i
theorem ags_bd {l : List Tk} {m : Nat} (h : TkBd m l) (hm : l.length ≤ m) {i j : Nat} {xs : List G.Ag} (hx : AgsR l i (some (xs, j))) : G.AgsBd m xs := by
  rcases hx with ⟨_, e⟩ | ⟨x, j1, r', h1, h2, e⟩
  · cases e
  · cases r' with
    | none => cases e
    | some p =>
      obtain ⟨ys, k⟩ := p
      simp only [ahead, Option.some.injEq, Prod.mk.injEq] at e
      obtain ⟨rfl, rfl⟩ := e
      have hu : ∀ i x j, agOne l i (some (x, j)) → i < j := fun i x j ho => pAg_up (show pAg l i = some (x, j) from (show some (x, j) = pAg l i from ho).symm)
      have hl := many_len (n := l.length) hu (fun i hi => by have := tkE_lt (show tkE (nxT l i) ⟨4, 0, ⟨#[41]⟩⟩ = true from hi); omega) h2 ys _ rfl
      have := pAg_up h1
      refine ⟨by simp; omega, fun y hy => ?_⟩
      rcases List.mem_append.1 hy with hy | hy
      · rw [List.mem_singleton.1 hy]; exact pAg_bd h h1
      · exact many_all (p := G.AgBd m) (fun i x j ho => pAg_bd h (show pAg l i = some (x, j) from (show some (x, j) = pAg l i from ho).symm)) h2 ys _ rfl y hy
theorem pFdT_bd {l : List Tk} {m : Nat} (h : TkBd m l) {nm : ByteArray} (hn : nm.size ≤ m) {args : List G.Ag} (ha : G.AgsBd m args) {i j : Nat} {x : G.Fd} (hx : some (x, j) = pFdT nm args l i) : G.FdBd m x := by
  unfold pFdT at hx
  split at hx
  · cases hx
  · split at hx
    · cases hx
    · split at hx
      · split at hx
        · cases hx
        · simp only [Option.some.injEq, Prod.mk.injEq] at hx
          rw [hx.1]
          exact ⟨hn, ha, nm_bd h _⟩
      · simp only [Option.some.injEq, Prod.mk.injEq] at hx
        rw [hx.1]
        exact ⟨hn, ha, nm_bd h _⟩
theorem fdR_bd {l : List Tk} {m : Nat} (h : TkBd m l) (hm : l.length ≤ m) {i j : Nat} {x : G.Fd} (hx : FdR l i (some (x, j))) : G.FdBd m x := by
  rcases hx with ⟨_, e⟩ | ⟨_, ⟨_, e⟩ | ⟨_, ra, h3, ⟨_, e⟩ | ⟨args, j1, rfl, e⟩⟩⟩
  · cases e
  · exact pFdT_bd h (nm_bd h _) ⟨Nat.zero_le _, fun x hx => by simp at hx⟩ e
  · cases e
  · exact pFdT_bd h (nm_bd h _) (ags_bd h hm h3) e
theorem tdR_bd {l : List Tk} {m : Nat} (h : TkBd m l) (hm : l.length ≤ m) {i j : Nat} {x : G.Td} (hx : TdR l i (some (x, j))) : G.TdBd m x := by
  rcases hx with ⟨_, e⟩ | ⟨_, ⟨_, e⟩ | ⟨_, ⟨_, e⟩ | ⟨_, r', h1, ⟨_, e⟩ | ⟨fs, j1, e1, e⟩⟩⟩⟩
  · cases e
  · cases e
  · cases e
  · cases e
  · cases e
    subst e1
    have hl := many_len (n := l.length) (fun i x j (ho : FdR l i (some (x, j))) => fdR_up ho) (fun i hi => by have := tkE_lt (show tkE (nxT l i) ⟨4, 0, ⟨#[125]⟩⟩ = true from hi); omega) h1 fs _ rfl
    exact ⟨nm_bd h _, by show fs.length ≤ m; omega, many_all (p := G.FdBd m) (fun i x j ho => fdR_bd h hm ho) h1 fs _ rfl⟩
theorem sch_bd {l : List Tk} {m : Nat} (h : TkBd m l) (hm : l.length ≤ m) {i k : Nat} {xs : List G.Td} (hx : Many (eofB l) (TdR l) i (some (xs, k))) : G.TdsBd m xs := by
  have hl := many_len (n := l.length) (fun i x j (ho : TdR l i (some (x, j))) => tdR_up ho) (fun i hi => by unfold eofB at hi; rw [decide_eq_true_eq] at hi; omega) hx xs _ rfl
  exact ⟨by omega, many_all (p := G.TdBd m) (fun i x j ho => tdR_bd h hm ho) hx xs _ rfl⟩
end Go.Proofs.YtnfoinmccigdfaaGreatDoor
