/- The map of fragments that are left: what is in it, gone through in whatever order, with one taken out. -/
import Derived.Test.YtajjaddlalbnmaaVaApp
import Derived.Maps.RangeWalk
namespace Go.Proofs.Ytajjaddlalbnmaa
open Go.ChangeShapes Go.WideShapes Go.ChangeAt Go.RowKit Go.Maps
open Go.WideMaps (keyOf_string_mk)
set_option linter.unusedVariables false

/-- How many entries a map's block has. -/
def mapN (w : World) (B : Nat) : Nat := match w.heap[B]? with
  | some (.map es _) => es.size
  | _ => 0
theorem FrHeld.mapN {w0 w : World} {B : Nat} {L : List De} (h : FrHeld w0 w B L) : Go.Proofs.Ytajjaddlalbnmaa.mapN w B = L.length := by
  obtain ⟨D, n, ⟨es, clock, h1, F, h2, rfl⟩, _, h4, _⟩ := h
  unfold Go.Proofs.Ytajjaddlalbnmaa.mapN
  rw [h1, ← h4]
  exact (length_read es).symm
/-- The map's own data. -/
def FrD (w0 : World) (D : DataW Value) (L : List De) : Prop := Maps.size D = L.length ∧ (∀ s : ByteArray, Maps.has D (.string s.toList) = hasNm L s) ∧
  ∀ x ∈ L, ∃ a c, (∀ z, D.atKey (.string x.nm.toList) z = .held (deV x a c)) ∧ SelRow 0 w0.heap.size w0 a x.sels
theorem FrHeld.data {w0 w : World} {B : Nat} {L : List De} (h : FrHeld w0 w B L) : ∃ D, w.ownsMap Try.prog 9 heldE B L.length D ∧ FrD w0 D L := by
  obtain ⟨D, n, ⟨es, clock, h1, F, h2, rfl⟩, h3, h4, h5, h6⟩ := h
  refine ⟨_, ⟨es, clock, h1, F, ?_, rfl⟩, h4, h5, h6⟩
  omega
theorem FrD.held {w0 w : World} {B n : Nat} {D : DataW Value} {L : List De} (h : w.ownsMap Try.prog 9 heldE B n D) (hd : FrD w0 D L) : FrHeld w0 w B L := by
  obtain ⟨es, clock, h1, F, h2, rfl⟩ := h
  refine ⟨_, L.length, ⟨es, clock, h1, F, ?_, rfl⟩, Nat.le_refl _, hd.1, hd.2.1, hd.2.2⟩
  rw [← hd.1]
  exact Nat.le_of_eq (length_read es).symm
theorem names_filter {L : List De} (hn : (L.map fun x => x.nm.toList).Nodup) {x : De} (hx : x ∈ L) : (L.filter fun y => !(y.nm.toList == x.nm.toList)).length + 1 = L.length := by
  induction L with
  | nil => simp at hx
  | cons y L ih =>
    rw [List.map_cons, List.nodup_cons] at hn
    rcases List.mem_cons.1 hx with rfl | hx
    · rw [List.filter_cons_of_neg (by simp)]
      have : L.filter (fun y => !(y.nm.toList == x.nm.toList)) = L := by
        rw [List.filter_eq_self]
        intro z hz
        cases hc : (z.nm.toList == x.nm.toList) with
        | false => rfl
        | true => exact absurd (List.mem_map.2 ⟨z, hz, beq_iff_eq.1 hc⟩) hn.1
      rw [this, List.length_cons]
    · have hne : (y.nm.toList == x.nm.toList) = false := by
        cases hc : (y.nm.toList == x.nm.toList) with
        | false => rfl
        | true => exact absurd (List.mem_map.2 ⟨x, hx, (beq_iff_eq.1 hc).symm⟩) hn.1
      rw [List.filter_cons_of_pos (by simp [hne]), List.length_cons, List.length_cons, ← ih hn.2 hx]
theorem names_nodup {L : List De} (hn : (L.map fun x => x.nm.toList).Nodup) (p : De → Bool) : ((L.filter p).map fun x => x.nm.toList).Nodup := by
  induction L with
  | nil => exact List.nodup_nil
  | cons y L ih =>
    rw [List.map_cons, List.nodup_cons] at hn
    cases hp : p y with
    | false => rw [List.filter_cons_of_neg (by simp [hp])]; exact ih hn.2
    | true =>
      rw [List.filter_cons_of_pos hp, List.map_cons, List.nodup_cons]
      refine ⟨fun hm => hn.1 ?_, ih hn.2⟩
      obtain ⟨z, hz, e⟩ := List.mem_map.1 hm
      exact List.mem_map.2 ⟨z, (List.mem_filter.1 hz).1, e⟩
theorem frs_names (l : List De) : ((frsOf l).map fun x => x.nm.toList).Nodup := by
  refine foldl_snoc_ind (P := fun l => ((frsOf l).map fun x => x.nm.toList).Nodup) (by simp [frsOf]) ?_ l
  intro l x ih
  rw [frs_snoc]
  unfold addFr
  split
  · rename_i hc
    simp only [Bool.and_eq_true, Bool.not_eq_true'] at hc
    rw [List.map_append, List.nodup_append]
    refine ⟨ih, by simp, ?_⟩
    intro a ha b hb e
    simp only [List.map_cons, List.map_nil, List.mem_singleton] at hb
    obtain ⟨y, hy, rfl⟩ := List.mem_map.1 ha
    have : hasNm (frsOf l) x.nm = true := List.any_eq_true.2 ⟨y, hy, by rw [e, hb]; simp⟩
    rw [hc.2] at this; cases this
  · exact ih
theorem FrD.del {w0 : World} {D : DataW Value} {L : List De} (ht : Tidy D) (hd : FrD w0 D L) (hn : (L.map fun x => x.nm.toList).Nodup) {x : De} (hx : x ∈ L) : FrD w0 (D.del (.string x.nm.toList)) (L.filter fun y => !(y.nm.toList == x.nm.toList)) := by
  refine ⟨?_, fun s => ?_, fun y hy => ?_⟩
  · have h1 := size_del (k := .string x.nm.toList) ht
    have h2 : hasNm L x.nm = true := List.any_eq_true.2 ⟨x, hx, by simp⟩
    rw [hd.2.1, h2, if_pos rfl, hd.1] at h1
    have h3 := names_filter hn hx
    omega
  · by_cases hs : (x.nm.toList == s.toList) = true
    · rw [← beq_iff_eq.1 hs, has_del_same]
      unfold hasNm
      rw [Eq.comm, List.any_eq_false]
      intro y hy
      have := (List.mem_filter.1 hy).2
      rw [← beq_iff_eq.1 hs]
      simpa using this
    · have hs : (x.nm.toList == s.toList) = false := by simpa using hs
      rw [has_del_other (key_ne hs), hd.2.1]
      unfold hasNm
      rw [Bool.eq_iff_iff, List.any_eq_true, List.any_eq_true]
      constructor
      · rintro ⟨y, hy, e⟩
        refine ⟨y, List.mem_filter.2 ⟨hy, ?_⟩, e⟩
        rw [beq_iff_eq.1 e]
        cases hc : (s.toList == x.nm.toList) with
        | false => rfl
        | true => rw [beq_iff_eq.1 hc] at hs; simp at hs
      · rintro ⟨y, hy, e⟩
        exact ⟨y, (List.mem_filter.1 hy).1, e⟩
  · obtain ⟨hy1, hy2⟩ := List.mem_filter.1 hy
    obtain ⟨a, c, h5, h6⟩ := hd.2.2 y hy1
    have hne : (x.nm.toList == y.nm.toList) = false := by
      cases hc : (x.nm.toList == y.nm.toList) with
      | false => rfl
      | true => rw [beq_iff_eq.1 hc] at hy2; simp at hy2
    exact ⟨a, c, fun z => by rw [atKey_del_other (key_ne hne)]; exact h5 z, h6⟩
theorem ranges_same {w w' : World} {P : Program} {k : TypeId} {R : Value → Option (DataW Value × List MemPlace)} {b r n : Nat} {D : DataW Value} {left : Lit → Bool} {cnt : Nat} (h : w.ranges P k R b r n D left cnt) (hb : w'.heap[b]? = w.heap[b]?) (hr : w'.heap[r]? = w.heap[r]?) : w'.ranges P k R b r n D left cnt ∧ w'.rangeLeft b r = w.rangeLeft b r := by
  refine ⟨?_, by unfold World.rangeLeft; rw [hb, hr]⟩
  unfold World.ranges at h ⊢
  rw [hb, hr]
  exact h
theorem keyOf_string_inv {P : Program} {k : TypeId} (hk : P.underlying k = some .string) {key : Value} {kl : Lit} (h : keyOf P k key = some kl) : ∃ s : ByteArray, key = .string s ∧ kl = .string s.toList := by
  cases key <;> simp [keyOf, hk, mapKey] at h
  rename_i s
  obtain ⟨_, rfl⟩ := h
  exact ⟨s, rfl, by rw [ByteArray.toList_eq]⟩
theorem toList_inj {s t : ByteArray} (h : s.toList = t.toList) : s = t := by
  rw [ByteArray.toList_eq, ByteArray.toList_eq] at h
  cases s; cases t
  simp only [ByteArray.mk.injEq]
  exact Array.toList_inj.1 h
/-- One fragment more, whichever; or none is left. -/
theorem wpList_next_frs {w : World} {ops : Array Oper} {rest : List Oper} {o : Oper} {a : Act} {Q : Exit → Act → World → Prop} (hg : o.guard = none) (it : Operand) (hop : o.op = Op.next it false) (b r n : Nat) (D : DataW Value) (left : Lit → Bool) (cnt : Nat) (w0 : World) (L : List De) (hd : FrD w0 D L)
    (hit : a.eval it = .pointer (some ⟨r, 0, none⟩)) (h : w.ranges Try.prog 9 heldE b r n D left cnt)
    (hDone : (∀ kl, left kl = false) → wpList Try.prog ops Q rest (a.put o.dst (.tuple #[.bool false])) w)
    (hMore : ∀ (x : De) (a3 : Option Addr) (c3 : Nat) (w' : World) (cnt' : Nat), x ∈ L → SelRow 0 w0.heap.size w0 a3 x.sels → left (.string x.nm.toList) = true → w'.ranges Try.prog 9 heldE b r n D (fun z => left z && !z.sameKey (.string x.nm.toList)) cnt' → cnt' < cnt → w.grownBy w' (some r) → w'.heap.size = w.heap.size →
      (Instr.entry (.pointer (some ⟨r, 0, none⟩))).run Try.prog w' = .ok (.tuple #[.string x.nm, .agg #[.int .i64 x.k, .string x.nm, .string x.on, .slice a3 x.sels.len c3]]) w' → wpList Try.prog ops Q rest (a.put o.dst (.tuple #[.bool true, .string x.nm, .agg #[.int .i64 x.k, .string x.nm, .string x.on, .slice a3 x.sels.len c3]])) w') :
    wpList Try.prog ops Q (o :: rest) a w := by
  refine wpList_next_ranges (α := ByteArray) (β := Value) w hg it hop 9 law9 heldE Value.string id (fun key kl hk => ?_) (fun v y _ => ⟨v, rfl⟩) b r n D left cnt hit h (fun _ hl => hDone hl) (fun s v kl y w' cnt' hkey hlk hv hat hrg hlt hgr hsz hen => ?_)
  · obtain ⟨s, rfl, _⟩ := keyOf_string_inv Try.underlying9 hk
    exact ⟨s, rfl⟩
  · obtain ⟨s', e1, rfl⟩ := keyOf_string_inv Try.underlying9 hkey
    simp only [Value.string.injEq] at e1
    subst e1
    simp only [heldE, id, Option.some.injEq] at hv
    subst hv
    have hh : Maps.has D (.string s.toList) = true := by
      cases hc : Maps.has D (.string s.toList) with
      | true => rfl
      | false =>
        have h1 := (hat (.agg [])).symm.trans (atKey_of_not_has hc _)
        cases h1
    rw [hd.2.1] at hh
    obtain ⟨x, hx, e⟩ := List.any_eq_true.1 hh
    obtain rfl : x.nm = s := toList_inj (beq_iff_eq.1 e)
    obtain ⟨a3, c3, h5, h6⟩ := hd.2.2 x hx
    have h7 := (hat (.agg [])).symm.trans (h5 _)
    simp only [DataW.held.injEq] at h7
    subst h7
    exact hMore x a3 c3 w' cnt' hx h6 hlk hrg hlt hgr hsz hen
end Go.Proofs.Ytajjaddlalbnmaa
