/- FieldAt: a field found by its type's name and its own, in new memory; the specification's side. -/
import Derived.Test.YtcnbpdkhhkggpaaSchFld
import Derived.Deep.Upon
namespace Go.Proofs.Ytcnbpdkhhkggpaa.G
open Go.ChangeShapes Go.WideShapes Go.ChangeAt Go.RowKit
set_option linter.unusedVariables false

/-- The cells of a list of arguments. -/
def agv : List Ag → List Value
  | [] => []
  | x :: l => .string x.nm :: .bool x.need :: agv l
theorem agv_len : ∀ l : List Ag, (agv l).length = l.length * 2
  | [] => rfl
  | x :: l => by simp only [agv, List.length_cons, agv_len l]; omega
theorem agv_at : ∀ {l : List Ag} {j : Nat} {u : Value}, (agv l)[j]? = some u → ∃ i, ∃ hi : i < l.length, (j = i * 2 ∧ u = .string l[i].nm) ∨ (j = i * 2 + 1 ∧ u = .bool l[i].need)
  | [], j, u, h => by simp [agv] at h
  | x :: l, 0, u, h => by
    simp only [agv, List.getElem?_cons_zero, Option.some.injEq] at h
    exact ⟨0, by simp, .inl ⟨rfl, h.symm⟩⟩
  | x :: l, 1, u, h => by
    simp only [agv, List.getElem?_cons_succ, List.getElem?_cons_zero, Option.some.injEq] at h
    exact ⟨0, by simp, .inr ⟨rfl, h.symm⟩⟩
  | x :: l, j + 2, u, h => by
    simp only [agv, List.getElem?_cons_succ] at h
    obtain ⟨i, hi, h | h⟩ := agv_at h
    · exact ⟨i + 1, by simpa using hi, .inl ⟨by omega, by simpa using h.2⟩⟩
    · exact ⟨i + 1, by simpa using hi, .inr ⟨by omega, by simpa using h.2⟩⟩
theorem agv_get : ∀ {l : List Ag} {i : Nat} {x : Ag}, l[i]? = some x → (agv l)[i * 2]? = some (.string x.nm) ∧ (agv l)[i * 2 + 1]? = some (.bool x.need)
  | [], i, x, h => by simp at h
  | y :: l, 0, x, h => by
    simp only [List.getElem?_cons_zero, Option.some.injEq] at h
    subst h
    exact ⟨rfl, rfl⟩
  | y :: l, i + 1, x, h => by
    have q := agv_get (l := l) (i := i) (x := x) (by simpa using h)
    have e : (i + 1) * 2 = i * 2 + 2 := by omega
    have e' : (i + 1) * 2 + 1 = i * 2 + 1 + 2 := by omega
    rw [e', e]
    simpa only [agv, List.getElem?_cons_succ] using q
theorem agv_one (l : List Ag) : ∀ u ∈ agv l, u.oneCell' = true := by
  intro u hu
  obtain ⟨j, hj, rfl⟩ := List.getElem_of_mem hu
  obtain ⟨i, hi, h | h⟩ := agv_at (List.getElem?_eq_getElem hj)
  · rw [h.2]; rfl
  · rw [h.2]; rfl
theorem agv_cells {lo hi : Nat} {w : World} {b o : Nat} {l : List Ag} (h : AgRow lo hi w (some ⟨b, o, none⟩) l) : ∀ j u, (agv l)[j]? = some u → w.cell? ((⟨b, o, none⟩ : Addr).add j) = some u := by
  intro j u hu
  obtain ⟨i, hi, hh⟩ := agv_at hu
  obtain ⟨b', o', ha, _, _, d0, d1⟩ := AgRow.cells h i hi
  simp only [Option.some.injEq, Addr.mk.injEq] at ha
  obtain ⟨rfl, rfl, _⟩ := ha
  rw [add_plain]
  rcases hh with ⟨rfl, rfl⟩ | ⟨rfl, rfl⟩
  · exact d0
  · exact d1
theorem own_mine {w : World} {base : Nat} {v : Value} {l : List Ag} (h : w.ownsRow base 67 2 v l.length (agv l)) : ∃ a c, v = .slice a l.length c ∧ AgMine base w.heap.size w a l := by
  rcases h.2 with ⟨rfl, h0⟩ | ⟨g, cap, cur, rfl, h2, h3, h4, h5, h6, h7⟩
  · exact ⟨none, 0, by rw [h0], by rw [List.length_eq_zero_iff.1 h0]; exact mine_nil _ _ _ _⟩
  · refine ⟨_, _, rfl, [g], .inr ⟨g, cur, rfl, rfl, h3, by rw [h6]; exact Nat.mul_le_mul_right _ h4, fun i x hx => ?_⟩, by simp, ?_⟩
    · have hi := (List.getElem?_eq_some_iff.1 hx).1
      have e := agv_get hx
      rw [← h7, List.getElem?_take, if_pos (by omega), List.getElem?_take, if_pos (by omega)] at e
      exact ⟨by simpa using e.1, by simpa using e.2⟩
    · intro k hk
      rw [List.mem_singleton.1 hk]
      exact ⟨h2, (Array.getElem?_eq_some_iff.1 h3).1⟩
theorem own_empty (w : World) (base : Nat) (hb : base ≤ w.heap.size) : (w.alloc (.cells #[] 67)).ownsRow base 67 2 (.slice (some ⟨w.heap.size, 0, none⟩) 0 0) 0 [] :=
  ⟨rfl, .inr ⟨w.heap.size, 0, #[], rfl, hb, heap_alloc_new w _, Nat.le_refl _, Nat.zero_le _, rfl, rfl⟩⟩
theorem wpList_append_no {P : Program} {w : World} {ops : Array Oper} {rest : List Oper} {o : Oper} {a : Act} {Q : Exit → Act → World → Prop} (hgd : o.guard = none) (s x : Operand) (t : TypeId)
    (ho : o.op = .call { callee := .builtin .append, args := #[s, x], argTypes := #[t, t] }) (e : TypeId) (i : TypeInfo) (ht : P.underlying t = some (.slice e)) (hi : P.info? e = some i)
    (p p4 : Option Addr) (c4 : Nat) (hs : a.eval s = .slice p 0 0) (hx : a.eval x = .slice p4 0 c4) (h : ∀ v' w', Hid (v' = .slice p 0 0) → Hid (w' = w) → wpList P ops Q rest (a.put o.dst v') w') : wpList P ops Q (o :: rest) a w := by
  have hsrc : Src P i.size t (.slice p4 0 c4) 0 [] w := by
    cases p4
    · exact Src.ofNil w ht c4
    · exact Src.ofSlice w ht _ 0 c4 [] (by simp) (by simp) (by simp)
  have hr := run_append_nothing (P := P) w t t o.type e i ht hi p 0 0 (Nat.le_refl _) _ hsrc
  refine wpList_plain hgd fun K hK => ?_
  unfold Oper.wp execOp
  simp only [ho, resolve, invoke, builtin, Sem.run_bind, Sem.run_pure, Result.andThen_ok, List.map_toArray, List.map_cons, List.map_nil, hs, hx, hr]
  exact hK _ _ (h _ _ rfl rfl)

set_option maxHeartbeats 4000000 in
set_option maxRecDepth 40000 in
theorem spec_fieldAt (a : Option Addr) (c : Nat) (l : List Td) (s t : ByteArray) (w : World) (hr : TdRow 0 w.heap.size w a l) (hb : TdsBd 1048576 l) (hs : s.size ≤ 1048576) (ht : t.size ≤ 1048576) :
    Calls Try.prog 5 #[.agg #[.slice a l.length c], .string s, .string t] w fun e w' => SaysF w.heap.size w' (FlR l s t) e ∧ Below w.heap.size w w' := by
  have K1 : Hid (∀ W0, Below w.heap.size w W0 → TdRow 0 W0.heap.size W0 a l) := fun W0 hB => TdRow.up hr hB
  have HB : Hid (TdsBd 1048576 l) := hb
  clear hr hb
  by_cases hls : 65536 < s.size
  · have HN : Hid (FlR l s t fd0 2) := .inl ⟨.inl hls, rfl, rfl⟩
    go_enter Try.func5, Try.ntmps5
    go_wp2_with fail
    refine bodyPost_ret (v := .tuple #[.agg #[.string ⟨#[]⟩, .slice none 0 0, .string ⟨#[]⟩, .bool false, .bool false], .int .i64 2]) (by simp [results, Try.results5, go_sem]) rfl ⟨SaysF.zero HN.out, ?_⟩
    repeat (first | exact Below.refl _ _ | refine Below.setCell ?_ (by first | omega | (simp <;> omega)) _ | refine Below.alloc ?_ (by first | omega | (simp <;> omega)) _)
  by_cases hlt : 65536 < t.size
  · have HN : Hid (FlR l s t fd0 2) := .inl ⟨.inr hlt, rfl, rfl⟩
    go_enter Try.func5, Try.ntmps5
    go_wp2_with fail
    refine bodyPost_ret (v := .tuple #[.agg #[.string ⟨#[]⟩, .slice none 0 0, .string ⟨#[]⟩, .bool false, .bool false], .int .i64 2]) (by simp [results, Try.results5, go_sem]) rfl ⟨SaysF.zero HN.out, ?_⟩
    repeat (first | exact Below.refl _ _ | refine Below.setCell ?_ (by first | omega | (simp <;> omega)) _ | refine Below.alloc ?_ (by first | omega | (simp <;> omega)) _)
  have hsh : ¬ (65536 < s.size ∨ 65536 < t.size) := by omega
  go_enter Try.func5, Try.ntmps5
  go_wp2_with fail
  refine (spec_schema a c l _ (K1.out _ ?b0) HB.out).mono ?_
  case b0 => repeat (first | exact Below.refl _ _ | refine Below.setCell ?_ (by first | omega | (simp <;> omega)) _ | refine Below.alloc ?_ (by first | omega | (simp <;> omega)) _)
  rintro e w1 ⟨⟨bb, rfl, hbb⟩, hb1⟩
  have z1 : w.heap.size + 2 ≤ w1.heap.size := by have := hb1.size; simp at this; omega
  have Q1 : Hid (Below w.heap.size w w1) := by
    refine Below.trans ?_ (hb1.mono (by first | omega | (simp <;> omega)))
    repeat (first | exact Below.refl _ _ | refine Below.setCell ?_ (by first | omega | (simp <;> omega)) _ | refine Below.alloc ?_ (by first | omega | (simp <;> omega)) _)
  have k10 := fun o => hb1.cell (p := ⟨w.heap.size, o, none⟩) (by first | omega | (simp <;> omega))
  have k11 := fun o => hb1.cell (p := ⟨w.heap.size + 1, o, none⟩) (by first | omega | (simp <;> omega))
  have j11 := fun o => hb1.frozen (p := ⟨w.heap.size + 1, o, none⟩) (by first | omega | (simp <;> omega))
  clear hb1
  rcases hbb with ⟨rfl, hf⟩ | ⟨rfl, hf⟩
  case inr =>
    have HN : Hid (FlR l s t fd0 1) := .inr (.inl ⟨hsh, hf, rfl, rfl⟩)
    clear hf
    go_wp2_with fail
    refine bodyPost_ret (v := .tuple #[.agg #[.string ⟨#[]⟩, .slice none 0 0, .string ⟨#[]⟩, .bool false, .bool false], .int .i64 1]) (by simp [results, Try.results5, go_sem, k11]) rfl ⟨SaysF.zero HN.out, ?_⟩
    repeat (first | exact Q1.out | refine Below.setCell ?_ (by first | omega | (simp <;> omega)) _ | refine Below.alloc ?_ (by first | omega | (simp <;> omega)) _)
  have HO : Hid (SchOK l) := hf
  clear hf
  go_wp2_with fail
  refine (spec_find a c l s _ (K1.out _ Q1.out) HB.out.1).mono ?_
  rintro e w2 ⟨r, rfl, hf, hb2⟩
  have z2 := hb2.size
  have Q2 : Hid (Below w.heap.size w w2) := Q1.out.trans (hb2.mono (by omega))
  have k20 := fun o => hb2.cell (p := ⟨w.heap.size, o, none⟩) (show w.heap.size < w1.heap.size by omega)
  have k21 := fun o => hb2.cell (p := ⟨w.heap.size + 1, o, none⟩) (show w.heap.size + 1 < w1.heap.size by omega)
  have j21 := fun o => hb2.frozen (p := ⟨w.heap.size + 1, o, none⟩) (show w.heap.size + 1 < w1.heap.size by omega)
  clear hb2
  rcases hf with ⟨rfl, hf⟩ | ⟨j, hj, rfl, p3, _⟩
  · have HN : Hid (FlR l s t fd0 5) := .inr (.inr (.inl ⟨hsh, HO.out, hf, rfl, rfl⟩))
    clear hf
    go_wp2_with fail
    refine bodyPost_ret (v := .tuple #[.agg #[.string ⟨#[]⟩, .slice none 0 0, .string ⟨#[]⟩, .bool false, .bool false], .int .i64 5]) (by simp [results, Try.results5, go_sem, k21, k11]) rfl ⟨SaysF.zero HN.out, ?_⟩
    repeat (first | exact Q2.out | refine Below.setCell ?_ (by first | omega | (simp <;> omega)) _ | refine Below.alloc ?_ (by first | omega | (simp <;> omega)) _)
  have hj : j < l.length := by simpa using hj
  have p3 : Hid ((l[j].nm.toList == s.toList) = true) := by unfold Hid; simpa using p3
  have HBT : Hid (TdBd 1048576 l[j]) := HB.out.2 _ (List.getElem_mem hj)
  obtain ⟨b, o, a3, c3, ha, _, hbl, d0, d1, r3⟩ := TdRow.cells (K1.out _ Q2.out) j hj
  subst ha
  have R3 : Hid (∀ W0, Below w2.heap.size w2 W0 → FdRow 0 W0.heap.size W0 a3 l[j].fs) := fun W0 hB => FdRow.up r3 hB
  clear r3
  have D0 := d0
  have D1 := d1
  go_wp2_with fail
  refine (spec_field l[j] a3 c3 t _ (R3.out _ (Below.refl _ _)) HBT.out.2.1).mono ?_
  rintro e w3 ⟨r, rfl, hf, hb3⟩
  have z3 := hb3.size
  have P3 : Hid (Below w2.heap.size w2 w3) := hb3
  have Q3 : Hid (Below w.heap.size w w3) := Q2.out.trans (hb3.mono (by omega))
  have k30 := fun o => hb3.cell (p := ⟨w.heap.size, o, none⟩) (show w.heap.size < w2.heap.size by omega)
  have k31 := fun o => hb3.cell (p := ⟨w.heap.size + 1, o, none⟩) (show w.heap.size + 1 < w2.heap.size by omega)
  have j31 := fun o => hb3.frozen (p := ⟨w.heap.size + 1, o, none⟩) (show w.heap.size + 1 < w2.heap.size by omega)
  have f0 : w3.cell? ⟨b, o + j * 2, none⟩ = some (.string l[j].nm) := (hb3.cell (p := ⟨b, o + j * 2, none⟩) hbl).trans d0
  have f1 : w3.cell? ⟨b, o + j * 2 + 1, none⟩ = some (.slice a3 l[j].fs.length c3) := (hb3.cell (p := ⟨b, o + j * 2 + 1, none⟩) hbl).trans d1
  clear hb3 d0 d1 D0 D1
  rcases hf with ⟨rfl, hf⟩ | ⟨i, hi, rfl, q3, _⟩
  · have HN : Hid (FlR l s t fd0 9) := .inr (.inr (.inr ⟨hsh, HO.out, j, hj, p3.out, .inl ⟨hf, rfl, rfl⟩⟩))
    clear hf
    go_wp2_with fail
    refine bodyPost_ret (v := .tuple #[.agg #[.string ⟨#[]⟩, .slice none 0 0, .string ⟨#[]⟩, .bool false, .bool false], .int .i64 9]) (by simp [results, Try.results5, go_sem, k31, k21, k11]) rfl ⟨SaysF.zero HN.out, ?_⟩
    repeat (first | exact Q3.out | refine Below.setCell ?_ (by first | omega | (simp <;> omega)) _ | refine Below.alloc ?_ (by first | omega | (simp <;> omega)) _)
  have hi : i < l[j].fs.length := by simpa using hi
  have HR : Hid (FlR l s t l[j].fs[i] 0) := .inr (.inr (.inr ⟨hsh, HO.out, j, hj, p3.out, .inr ⟨i, hi, by simpa using q3, rfl, rfl⟩⟩))
  have HBF : Hid (FdBd 1048576 l[j].fs[i]) := HBT.out.2.2 _ (List.getElem_mem hi)
  obtain ⟨b4, o4, a4, c4, ha4, _, hbl4, e0, e1, e2, e3, e4, r4⟩ := FdRow.cells (R3.out _ P3.out) i hi
  subst ha4
  have R4 : Hid (AgRow 0 w3.heap.size w3 a4 l[j].fs[i].args) := r4
  clear r4 q3
  obtain ⟨i27, hi27, hz27, hs27, hy27⟩ := info_Ag
  by_cases h0 : l[j].fs[i].args = []
  · rw [h0, List.length_nil] at e1
    go_wp2_with (first
      | (at_builtin; refine wpList_append_no rfl _ _ 26 rfl 67 i27 Try.underlying26 hi27 (some ⟨w3.heap.size + 1, 0, none⟩) a4 c4 rfl rfl ?_)
      | fail)
    intro v' w5 hv hw5
    have hw5 := hw5.out
    obtain ⟨a6, c6, hv2, A6⟩ : ∃ a6 c6, v' = .slice a6 0 c6 ∧ Hid (AgMine (w3.heap.size + 1) w5.heap.size w5 a6 l[j].fs[i].args) := ⟨_, _, hv.out, by rw [h0]; exact mine_nil _ _ _ _⟩
    clear hv
    subst hv2
    have hB6 : Below (w3.heap.size + 1) ((w3.alloc (.cells #[.string l[j].fs[i].nm, .slice a4 0 c4, .string l[j].fs[i].ty, .bool l[j].fs[i].ls, .bool l[j].fs[i].bg] 28)).alloc (.cells #[] 67)) w5 := by rw [hw5]; exact Below.refl _ _
    clear hw5
    have z5 : w3.heap.size + 2 ≤ w5.heap.size := by have := hB6.size; simp at this; omega
    have Q5 : Hid (Below w.heap.size w w5) := by
      refine Below.trans ?_ (hB6.mono (by have := Q3.out.size; omega))
      repeat (first | refine Below.alloc ?_ (by first | omega | (simp <;> omega)) _ | exact Q3.out)
    have k50 := fun o => hB6.cell (p := ⟨w3.heap.size, o, none⟩) (by first | omega | (simp <;> omega))
    have j50 := fun o => hB6.frozen (p := ⟨w3.heap.size, o, none⟩) (by first | omega | (simp <;> omega))
    have P5 : Hid (Below w3.heap.size w3 w5) := (((Below.refl _ _).alloc (Nat.le_refl _) _).alloc (by simp) _).trans (hB6.mono (by omega))
    have k51 := fun o => P5.out.cell (p := ⟨w.heap.size + 1, o, none⟩) (show w.heap.size + 1 < w3.heap.size by omega)
    have j51 := fun o => P5.out.frozen (p := ⟨w.heap.size + 1, o, none⟩) (show w.heap.size + 1 < w3.heap.size by omega)
    clear hB6 e0 e1 e2 e3 e4 f0 f1
    go_wp2_with fail
    refine bodyPost_ret (v := .tuple #[fdV l[j].fs[i] a6 c6, .int .i64 0]) (by simp [results, Try.results5, go_sem, k51, k31, k21, k11, fdV, h0]) rfl ?_
    have G : ∀ W' : World, W'.heap.size = w5.heap.size → Agree (w3.heap.size + 1) w5.heap.size w5 W' → Below w.heap.size w W' → SaysF w.heap.size W' (FlR l s t) (.returned (.tuple #[fdV l[j].fs[i] a6 c6, .int .i64 0])) ∧ Below w.heap.size w W' :=
      fun W' hw ha hB => ⟨⟨_, _, _, _, rfl, HR.out, AgMine.wide (AgMine.keep A6.out ha) (by omega) (by omega)⟩, hB⟩
    refine G _ (by simp) ?_ ?_
    · intro g h1 h2
      repeat rw [heap_set _ _ _ _ _ (by omega)]
    · repeat (refine Below.setCell ?_ (by first | omega | (simp <;> omega)) _)
      exact Q5.out
  · have hp : 0 < l[j].fs[i].args.length := List.length_pos_iff.2 h0
    have hlen : l[j].fs[i].args.length ≤ 1048576 := HBF.out.2.1.1
    obtain ⟨b5, o5, ha5, _, hb5, _, _⟩ := AgRow.cells R4.out 0 hp
    subst ha5
    have HC : Hid (∀ j' u, (agv l[j].fs[i].args)[j']? = some u → ((w3.alloc (.cells #[.string l[j].fs[i].nm, .slice (some ⟨b5, o5, none⟩) l[j].fs[i].args.length c4, .string l[j].fs[i].ty, .bool l[j].fs[i].ls, .bool l[j].fs[i].bg] 28)).alloc (.cells #[] 67)).cell? ((⟨b5, o5, none⟩ : Addr).add j') = some u) := agv_cells (AgRow.up R4.out (((Below.refl _ _).alloc (Nat.le_refl _) _).alloc (by simp) _))
    have HW : Hid (((w3.alloc (.cells #[.string l[j].fs[i].nm, .slice (some ⟨b5, o5, none⟩) l[j].fs[i].args.length c4, .string l[j].fs[i].ty, .bool l[j].fs[i].ls, .bool l[j].fs[i].bg] 28)).alloc (.cells #[] 67)).ownsRow (w3.heap.size + 1) 67 2 (.slice (some ⟨w3.heap.size + 1, 0, none⟩) 0 0) 0 []) := by
      have q := own_empty (w3.alloc (.cells #[.string l[j].fs[i].nm, .slice (some ⟨b5, o5, none⟩) l[j].fs[i].args.length c4, .string l[j].fs[i].ty, .bool l[j].fs[i].ls, .bool l[j].fs[i].bg] 28)) (w3.heap.size + 1) (by simp)
      unfold Hid
      simpa using q
    clear h0
    go_wp2_with (first
      | (at_builtin; refine wpList_append_own _ rfl _ _ 26 rfl (w3.heap.size + 1) 67 i27 _ 2 24 Try.underlying26 hi27 hz27 hs27 hy27 rfl (by decide) _ 0 [] rfl HW.out ⟨b5, o5, none⟩ l[j].fs[i].args.length c4 (agv l[j].fs[i].args) rfl (agv_len _) HC.out (agv_one _) (by unfold maxLen; omega) (by omega) (by simp) ?_)
      | fail)
    intro v' w5 hown hgrow _
    obtain ⟨a6, c6, rfl, A6⟩ := own_mine hown
    have A6 : Hid (AgMine (w3.heap.size + 1) w5.heap.size w5 a6 l[j].fs[i].args) := A6
    have hB6 : Below (w3.heap.size + 1) ((w3.alloc (.cells #[.string l[j].fs[i].nm, .slice (some ⟨b5, o5, none⟩) l[j].fs[i].args.length c4, .string l[j].fs[i].ty, .bool l[j].fs[i].ls, .bool l[j].fs[i].bg] 28)).alloc (.cells #[] 67)) w5 := (Below.refl _ _).grown hgrow (by simp) (fun g hg => (World.ownsRow.lt HW.out g hg).1)
    clear hown hgrow
    have z5 : w3.heap.size + 2 ≤ w5.heap.size := by have := hB6.size; simp at this; omega
    have Q5 : Hid (Below w.heap.size w w5) := by
      refine Below.trans ?_ (hB6.mono (by have := Q3.out.size; omega))
      repeat (first | refine Below.alloc ?_ (by first | omega | (simp <;> omega)) _ | exact Q3.out)
    have k50 := fun o => hB6.cell (p := ⟨w3.heap.size, o, none⟩) (by first | omega | (simp <;> omega))
    have j50 := fun o => hB6.frozen (p := ⟨w3.heap.size, o, none⟩) (by first | omega | (simp <;> omega))
    have P5 : Hid (Below w3.heap.size w3 w5) := (((Below.refl _ _).alloc (Nat.le_refl _) _).alloc (by simp) _).trans (hB6.mono (by omega))
    have k51 := fun o => P5.out.cell (p := ⟨w.heap.size + 1, o, none⟩) (show w.heap.size + 1 < w3.heap.size by omega)
    have j51 := fun o => P5.out.frozen (p := ⟨w.heap.size + 1, o, none⟩) (show w.heap.size + 1 < w3.heap.size by omega)
    clear hB6 e0 e1 e2 e3 e4 f0 f1
    go_wp2_with fail
    refine bodyPost_ret (v := .tuple #[fdV l[j].fs[i] a6 c6, .int .i64 0]) (by simp [results, Try.results5, go_sem, k51, k31, k21, k11, fdV]) rfl ?_
    have G : ∀ W' : World, W'.heap.size = w5.heap.size → Agree (w3.heap.size + 1) w5.heap.size w5 W' → Below w.heap.size w W' → SaysF w.heap.size W' (FlR l s t) (.returned (.tuple #[fdV l[j].fs[i] a6 c6, .int .i64 0])) ∧ Below w.heap.size w W' :=
      fun W' hw ha hB => ⟨⟨_, _, _, _, rfl, HR.out, AgMine.wide (AgMine.keep A6.out ha) (by omega) (by omega)⟩, hB⟩
    refine G _ (by simp) ?_ ?_
    · intro g h1 h2
      repeat rw [heap_set _ _ _ _ _ (by omega)]
    · repeat (refine Below.setCell ?_ (by first | omega | (simp <;> omega)) _)
      exact Q5.out
end Go.Proofs.Ytcnbpdkhhkggpaa.G
