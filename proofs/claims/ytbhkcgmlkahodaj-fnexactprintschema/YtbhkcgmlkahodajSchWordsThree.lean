/- The program's text of a schema: all words, and their joining. -/
import Derived.Test.YtbhkcgmlkahodajSchWordsTwo
namespace Go.Proofs.Ytbhkcgmlkahodaj.G
open Go.ChangeShapes Go.WideShapes Go.ChangeAt Go.RowKit
set_option linter.unusedVariables false

theorem join_J : ∀ (r : List (List UInt8)), Lib.joinTail [32] r = J r
  | [] => rfl
  | t :: r => by
    have := join_J r
    unfold Lib.joinTail at *
    simp only [List.map_cons, List.flatten_cons, this, J]; rfl
theorem join_all {toks : List (List UInt8)} (h : toks ≠ []) : 32 :: Lib.join toks [32] = J toks := by
  cases toks with
  | nil => exact absurd rfl h
  | cons t r => rw [Lib.join_cons, join_J]; rfl
theorem tdT_n {x : Td} (h : ∀ f ∈ x.fs, f.args.length ≤ 4) (hl : x.fs.length ≤ 10) : (tdT x).length ≤ 250 := by
  have := fdsT_n h
  simp only [tdT, List.length_cons, List.length_append, List.length_nil]; omega
theorem tdsT_n : ∀ {l : List Td}, (∀ x ∈ l, (∀ f ∈ x.fs, f.args.length ≤ 4) ∧ x.fs.length ≤ 10) → (tdsT l).length ≤ 250 * l.length
  | [], _ => Nat.le_refl _
  | x :: l, h => by
    have h1 := tdsT_n (l := l) (fun f hf => h f (by simp [hf]))
    have h2 := tdT_n (h x (by simp)).1 (h x (by simp)).2
    simp only [tdsT, List.length_append, List.length_cons]; omega
theorem tdsT_len : ∀ {l : List Td}, (∀ x ∈ l, nameB x.nm = true ∧ (∀ f ∈ x.fs, GoodF f ∧ f.args.length ≤ 4) ∧ x.fs.length ≤ 10) → (J (tdsT l)).length ≤ 5000 * l.length
  | [], _ => by simp [tdsT, J]
  | x :: l, h => by
    have h1 := tdsT_len (l := l) (fun f hf => h f (by simp [hf]))
    obtain ⟨g1, g2, g3⟩ := h x (by simp)
    have h2 := fdsT_len g2
    have h3 := name_len g1
    simp only [tdsT, tdT, J_append, J, List.length_append, List.length_cons, List.length_nil]; omega
def LT (l : List Td) (k : Nat) : List (List UInt8) := tdsT (l.take k)
def LF (l : List Td) (k : Nat) (x : Td) (m : Nat) : List (List UInt8) := tdsT (l.take k) ++ ([116, 121, 112, 101] :: nl x.nm :: [123] :: fdsT (x.fs.take m))
theorem LF_zero (l : List Td) (k : Nat) (x : Td) : LT l k ++ [[116, 121, 112, 101], nl x.nm, [123]] = LF l k x 0 := by simp [LT, LF, fdsT]
theorem LF_next {l : List Td} {k : Nat} {x : Td} {m : Nat} (h : m < x.fs.length) : LF l k x m ++ fdT x.fs[m] = LF l k x (m + 1) := by
  unfold LF; rw [fdsT_take h]; simp
theorem LF_done {l : List Td} {k : Nat} (h : k < l.length) : LF l k l[k] l[k].fs.length ++ [[125]] = LT l (k + 1) := by
  unfold LF LT; rw [tdsT_take h, List.take_length]; simp [tdT]
theorem Sch4 {l : List Td} (h : SchOK l) : ∀ x ∈ l, (∀ f ∈ x.fs, f.args.length ≤ 4) ∧ x.fs.length ≤ 10 := fun x hx => ⟨fun f hf => (Fd4 h hx f hf).2, (h.2.2.2.2.2 x hx).2.1⟩
theorem LT_n {l : List Td} (h : SchOK l) (k : Nat) : (LT l k).length ≤ 2000 := by
  have h1 := tdsT_n (l := l.take k) (fun x hx => Sch4 h x (List.mem_of_mem_take hx))
  have h2 := h.2.1
  rw [List.length_take] at h1
  unfold LT; omega
theorem LF_n {l : List Td} (h : SchOK l) (k : Nat) {x : Td} (hx : x ∈ l) (m : Nat) : (LF l k x m).length ≤ 2300 := by
  have h1 := LT_n h k
  have h2 := fdsT_n (l := x.fs.take m) (fun f hf => (Sch4 h x hx).1 f (List.mem_of_mem_take hf))
  have h3 := (Sch4 h x hx).2
  rw [List.length_take] at h2
  unfold LT at h1
  unfold LF
  simp only [List.length_append, List.length_cons]; omega
/-- What PrintSchema tells. -/
def PrR (l : List Td) (e : Ending) : Prop := (SchOK l ∧ ∃ t, e = .returned (.tuple #[.string t, .int .i64 0]) ∧ 32 :: nl t = J (tdsT l)) ∨ (¬ SchOK l ∧ e = .returned (.tuple #[.string ⟨#[]⟩, .int .i64 1]))
theorem PrR.yes {l : List Td} {t : ByteArray} (h : SchOK l) (ht : 32 :: nl t = J (tdsT l)) : PrR l (.returned (.tuple #[.string t, .int .i64 0])) := .inl ⟨h, t, rfl, ht⟩
theorem PrR.no {l : List Td} (h : ¬ SchOK l) : PrR l (.returned (.tuple #[.string ⟨#[]⟩, .int .i64 1])) := .inr ⟨h, rfl⟩

set_option maxHeartbeats 8000000 in
set_option maxRecDepth 40000 in
theorem impl_print (a : Option Addr) (c : Nat) (l : List Td) (w : World) (hr : TdRow 0 w.heap.size w a l) (hb : TdsBd 1048576 l) :
    Calls Try.prog 23 #[.agg #[.slice a l.length c]] w fun e w' => PrR l e ∧ Below w.heap.size w w' := by
  obtain ⟨i9, hi9, hz9, hs9, hy9⟩ := info_parts info9
  have B0 : Hid (Below w.heap.size w (w.alloc (.cells #[.slice a l.length c] 30))) := (Below.refl _ _).alloc (Nat.le_refl _) _
  have K1 : Hid (∀ W0, Below w.heap.size w W0 → TdRow 0 W0.heap.size W0 a l) := fun W0 hB => TdRow.up hr hB
  have HR : Hid (TdRow 0 w.heap.size w a l) := hr
  have HB : Hid (TdsBd 1048576 l) := hb
  clear hr hb
  go_enter Try.func23, Try.ntmps23
  go_wp2_with fail
  refine (impl_schema a c l _ (K1.out _ B0.out) HB.out).mono ?_
  rintro e w1 ⟨⟨bb, rfl, ⟨rfl, hf⟩ | ⟨rfl, hf⟩⟩, hb1⟩
  case inr =>
    have HN : Hid (¬ SchOK l) := hf
    go_wp2_with fail
    go_ret2
    exact ⟨PrR.no HN.out, below_one hb1⟩
  have HOK : Hid (SchOK l) := hf
  have hl8 : l.length ≤ 8 := hf.2.1
  have hl1 : 1 ≤ l.length := hf.1
  have k1 := fun o => hb1.cell (p := ⟨w.heap.size, o, none⟩) (by simp)
  have b1 : Below (w.heap.size + 1) (w.alloc (.cells #[.slice a l.length c] 30)) w1 := hb1.mono (by simp)
  clear hf hb1
  go_wp2_with fail
  go_loopw [4, 15] (fun v i w' => ∃ (k n : Nat), k ≤ l.length ∧ i = .int .i64 k ∧ Below (w.heap.size + 1) (w.alloc (.cells #[.slice a l.length c] 30)) w' ∧ Hid (Own w' (w.heap.size + 1) v n (LT l k))) (fun _ i _ => l.length - (intOf i).toNat)
  case atStart => exact ⟨0, 0, by omega, rfl, b1, ⟨rfl, .inl ⟨rfl, rfl⟩⟩⟩
  case round =>
    obtain ⟨wo, rfl⟩ : ∃ x, x = wr := ⟨_, rfl⟩
    clear k1 b1
    obtain ⟨k, n, hk, rfl, hb, HO⟩ := hrel
    have hz := size_one hb
    have hzz : w.heap.size < wo.heap.size := by omega
    have Q0 : Hid (Below w.heap.size w wo) := B0.out.trans (hb.mono (by omega))
    have HBo : Hid (Below (w.heap.size + 1) (w.alloc (.cells #[.slice a l.length c] 30)) wo) := hb
    have HNL : Hid (n = (LT l k).length) := HO.out.len
    have hn2 : n ≤ 2000 := by rw [HNL.out]; exact LT_n HOK.out k
    clear hb
    by_cases hlt : k < l.length
    case neg =>
      have e : k = l.length := by omega
      have HOE := HO.out
      rw [e] at HOE
      have hLT : LT l l.length = tdsT l := by unfold LT; rw [List.take_length]
      rw [hLT] at HOE
      have hne : tdsT l ≠ [] := by
        cases l with
        | nil => simp at hl1
        | cons x r => simp [tdsT, tdT]
      have hnl : n = (tdsT l).length := HOE.len
      have hn0 : 0 < n := by rw [hnl]; exact List.length_pos_iff.2 hne
      obtain ⟨g, cap, hv, hg, hgl, hc, cells⟩ := HOE.open_ hn0
      subst hv
      have HS : Hid (n = ((tdsT l).map fun t => (⟨t.toArray⟩ : ByteArray)).length) := by rw [Hid, List.length_map]; exact hnl
      have HCE : Hid (∀ (j : Nat) x, ((tdsT l).map fun t => (⟨t.toArray⟩ : ByteArray))[j]? = some x → wo.cell? ⟨g, 0 + j, none⟩ = some (.string x)) := by
        intro j x hx
        have h1 := cells j (.string x) (by
          unfold tvs
          rw [List.getElem?_map] at hx ⊢
          cases ht : (tdsT l)[j]? with
          | none => rw [ht] at hx; simp at hx
          | some t => rw [ht] at hx; simp only [Option.map_some, Option.some.injEq] at hx ⊢; rw [hx])
        rw [add_plain] at h1
        exact h1
      have HJ : Hid (((tdsT l).map fun t => (⟨t.toArray⟩ : ByteArray)).map (·.data.toList) = tdsT l) := by
        rw [Hid, List.map_map]
        exact (List.map_congr_left (fun t _ => rfl)).trans (List.map_id _)
      have HLE : Hid ((Lib.join (((tdsT l).map fun t => (⟨t.toArray⟩ : ByteArray)).map (·.data.toList)) (⟨#[32]⟩ : ByteArray).data.toList).length ≤ 140737488355328) := by
        rw [Hid, HJ.out]
        have h1 := tdsT_len (l := l) (fun x hx => ⟨(HOK.out.good x hx).1, Fd4 HOK.out hx, (Sch4 HOK.out x hx).2⟩)
        rw [← join_all hne] at h1
        simp only [List.length_cons] at h1
        show (Lib.join (tdsT l) [32]).length ≤ _
        omega
      have HT : Hid (32 :: nl (⟨(Lib.join (((tdsT l).map fun t => (⟨t.toArray⟩ : ByteArray)).map (·.data.toList)) (⟨#[32]⟩ : ByteArray).data.toList).toArray⟩ : ByteArray) = J (tdsT l)) := by
        rw [Hid, HJ.out, ← join_all hne]
        rfl
      clear HOE hLT hnl hne cells HO HNL
      generalize ((tdsT l).map fun t => (⟨t.toArray⟩ : ByteArray)) = xs at *
      have hxs := HS.out
      subst hxs
      clear HJ HS
      go_wp2_with fail
      refine (Try.strings_Join g 0 cap xs ⟨#[32]⟩ _ HCE.out hgl (by omega) hc HLE.out).mono ?_
      rintro e w5 ⟨rfl, hb5⟩
      have Q5 : Hid (Below w.heap.size w w5) := Q0.out.trans (hb5.mono Q0.out.size)
      clear hb5
      go_wp2_with fail
      go_ret2
      exact ⟨PrR.yes HOK.out HT.out, Q5.out⟩
    obtain ⟨b, o, a5, c5, ha, _, hbl, d0, d1, r3⟩ := TdRow.cells (TdRow.keep HR.out (agree Q0.out (Nat.le_refl _))) k hlt
    subst ha
    have hbo : b < wo.heap.size := by omega
    have hmem : l[k] ∈ l := List.getElem_mem hlt
    have HM : Hid (l[k] ∈ l) := hmem
    have hfl : l[k].fs.length ≤ 10 := (Sch4 HOK.out _ hmem).2
    have K3 : Hid (∀ W0, Below w.heap.size wo W0 → FdRow 0 w.heap.size W0 a5 l[k].fs) := fun W0 hB => FdRow.keep r3 (agree hB (Nat.le_refl _))
    have L2 : Hid _ := lit_cells (wo.alloc (.cells #[.string l[k].nm, .slice a5 l[k].fs.length c5] 58)) #[.string ⟨#[116, 121, 112, 101]⟩, .string l[k].nm, .string ⟨#[123]⟩] 9
    have O2 : Hid (Own ((wo.alloc (.cells #[.string l[k].nm, .slice a5 l[k].fs.length c5] 58)).alloc (.cells #[.string ⟨#[116, 121, 112, 101]⟩, .string l[k].nm, .string ⟨#[123]⟩] 9)) (w.heap.size + 1) _ n (LT l k)) := HO.out.up (((Below.refl _ _).alloc (Nat.le_refl _) _).alloc (by simp) _)
    have HLT : Hid (∀ g, _ = some g → g < wo.heap.size) := fun g hg => (World.ownsRow.lt HO.out g hg).2
    have HNW : Hid ([Value.string ⟨#[116, 121, 112, 101]⟩, .string l[k].nm, .string ⟨#[123]⟩] = tvs [[116, 121, 112, 101], nl l[k].nm, [123]]) := by simp [Hid, tvs, bt_nl]
    have B2 : Hid (Below (w.heap.size + 1) (w.alloc (.cells #[.slice (some ⟨b, o, none⟩) l.length c] 30)) ((wo.alloc (.cells #[.string l[k].nm, .slice a5 l[k].fs.length c5] 58)).alloc (.cells #[.string ⟨#[116, 121, 112, 101]⟩, .string l[k].nm, .string ⟨#[123]⟩] 9))) := (HBo.out.alloc (by omega) _).alloc (by simp; omega) _
    clear r3 HO hmem
    go_wp2_with (at_builtin; refine wpList_append_own _ rfl _ _ 75 rfl (w.heap.size + 1) 9 i9 _ 1 16 Try.underlying75 hi9 hz9 hs9 hy9 rfl (by decide) _ n _ rfl O2.out ⟨wo.heap.size + 1, 0, none⟩ 3 3 [.string ⟨#[116, 121, 112, 101]⟩, .string l[k].nm, .string ⟨#[123]⟩] rfl rfl (by simpa using L2.out) (by rw [HNW.out]; exact tvs_one _) (by unfold maxLen; omega) (by omega) (by simp; omega) ?_)
    intro v2 w2 hown hgrow _
    have O3 : Hid (Own w2 (w.heap.size + 1) v2 (n + 3) (LF l k l[k] 0)) := by
      rw [← LF_zero]; unfold Hid Own; rw [tvs_app, ← HNW.out]; exact hown
    have B3 : Hid (Below (w.heap.size + 1) (w.alloc (.cells #[.slice (some ⟨b, o, none⟩) l.length c] 30)) w2) := B2.out.grown hgrow (by simp; omega) (fun g hg => (World.ownsRow.lt O2.out g hg).1)
    have x1 : w2.cell? ⟨wo.heap.size, 1, none⟩ = some (.slice a5 l[k].fs.length c5) := by
      have h1 := hgrow.block wo.heap.size (by simp; omega) (fun h => by have := HLT.out _ h.symm; omega)
      rw [World.cell?_of_block (w := ((wo.alloc (.cells #[.string l[k].nm, .slice a5 l[k].fs.length c5] 58)).alloc (.cells #[.string ⟨#[116, 121, 112, 101]⟩, .string l[k].nm, .string ⟨#[123]⟩] 9))) h1]
      simp
    have b3 := B3.out
    clear hown hgrow d0 d1
    go_wp2_with fail
    clear x1
    go_loopw [4, 27] (fun v i w' => ∃ (m n : Nat), m ≤ l[k].fs.length ∧ i = .int .i64 m ∧ Below (w.heap.size + 1) (w.alloc (.cells #[.slice (some ⟨b, o, none⟩) l.length c] 30)) w' ∧ Hid (Own w' (w.heap.size + 1) v n (LF l k l[k] m))) (fun _ i _ => l[k].fs.length - (intOf i).toNat)
    case atStart => exact ⟨0, n + 3, by omega, rfl, b3, O3⟩
    case round =>
      obtain ⟨w3, rfl⟩ : ∃ x, x = wr := ⟨_, rfl⟩
      clear b3
      obtain ⟨m, n4, hm, rfl, hb4, HO4⟩ := hrel
      have hz4 := size_one hb4
      have HB4 : Hid (Below (w.heap.size + 1) (w.alloc (.cells #[.slice (some ⟨b, o, none⟩) l.length c] 30)) w3) := hb4
      have HNL4 : Hid (n4 = (LF l k l[k] m).length) := HO4.out.len
      have hn4 : n4 ≤ 2300 := by rw [HNL4.out]; exact LF_n HOK.out k HM.out m
      have Q4 : Hid (Below w.heap.size w w3) := ((Below.refl _ _).alloc (Nat.le_refl _) _).trans (hb4.mono (by omega))
      clear hb4
      by_cases hlm : m < l[k].fs.length
      case neg =>
        have e : m = l[k].fs.length := by omega
        have HOE := HO4.out
        rw [e] at HOE
        have HOF : Hid _ := HOE
        have L5 : Hid _ := lit_cells w3 #[.string ⟨#[125]⟩] 9
        have O5 : Hid (Own (w3.alloc (.cells #[.string ⟨#[125]⟩] 9)) (w.heap.size + 1) _ n4 (LF l k l[k] l[k].fs.length)) := Own.up HOF.out ((Below.refl _ _).alloc (Nat.le_refl _) _)
        clear HOE HO4 e
        go_wp2_with (at_builtin; refine wpList_append_own _ rfl _ _ 75 rfl (w.heap.size + 1) 9 i9 _ 1 16 Try.underlying75 hi9 hz9 hs9 hy9 rfl (by decide) _ n4 _ rfl O5.out ⟨w3.heap.size, 0, none⟩ 1 1 [.string ⟨#[125]⟩] rfl rfl L5.out (tvs_one [[125]]) (by unfold maxLen; omega) (by omega) (by simp; omega) ?_)
        intro v6 w6 hown hgrow _
        have O6 : Hid (Own w6 (w.heap.size + 1) v6 (n4 + 1) (LT l (k + 1))) := by
          rw [← LF_done hlt]; unfold Hid Own; rw [tvs_app]; exact hown
        have B6 : Hid (Below (w.heap.size + 1) (w.alloc (.cells #[.slice (some ⟨b, o, none⟩) l.length c] 30)) w6) := (HB4.out.alloc (by omega) _).grown hgrow (by simp; omega) (fun g hg => (World.ownsRow.lt O5.out g hg).1)
        clear hown hgrow
        go_wp2_with fail
        go_roundw
        case rel => exact ⟨k + 1, n4 + 1, by omega, by go_num, B6.out, O6⟩
        case measure => simp [intOf]; omega
      obtain ⟨b5, o5, a6, c6, ha5, _, hbl5, f0, f1, f2, f3, f4, r5⟩ := FdRow.cells (FdRow.keep (K3.out _ (Below.refl _ _)) (fun g h1 h2 => (Q4.out.block g h2).trans (Q0.out.block g h2).symm)) m hlm
      subst ha5
      have hb5 : b5 < w3.heap.size := by omega
      have ha4 : l[k].fs[m].args.length ≤ 4 := (Sch4 HOK.out _ HM.out).1 _ (List.getElem_mem hlm)
      have K5 : Hid (∀ W0, Below w3.heap.size w3 W0 → AgRow 0 W0.heap.size W0 a6 l[k].fs[m].args) := fun W0 hB => AgRow.up (AgRow.wide r5 (Nat.le_refl _) (by omega)) hB
      clear r5
      go_wp2_with fail
      refine Calls.mono (impl_fieldWords l[k].fs[m] a6 c6 _ (K5.out _ ?b0) ha4) ?_
      case b0 => repeat (first | exact Below.refl _ _ | refine Below.setCell ?_ (by first | omega | (simp <;> omega)) _ | refine Below.alloc ?_ (by first | omega | (simp <;> omega)) _)
      rintro e w5 ⟨v5, n5, rfl, o5', hb5'⟩
      have P5 : Hid (Below w3.heap.size w3 w5) := by
        refine Below.trans ?_ (hb5'.mono (by first | omega | (simp <;> omega)))
        repeat (first | exact Below.refl _ _ | refine Below.setCell ?_ (by first | omega | (simp <;> omega)) _ | refine Below.alloc ?_ (by first | omega | (simp <;> omega)) _)
      have z5 := P5.out.size
      have hfn := fdT_n l[k].fs[m]
      have HN5 : Hid (n5 = (fdT l[k].fs[m]).length) := o5'.len
      have hn5a : 0 < n5 := by rw [HN5.out]; omega
      have hn5b : n5 ≤ 24 := by rw [HN5.out]; omega
      obtain ⟨g5, cap5, hv5, hg5, hl5, hc5, cells5⟩ := o5'.open_ hn5a
      subst hv5
      have C5 : Hid _ := cells5
      have O6 : Hid (Own w5 (w.heap.size + 1) _ n4 (LF l k l[k] m)) := HO4.out.up P5.out
      have B5 : Hid (Below (w.heap.size + 1) (w.alloc (.cells #[.slice (some ⟨b, o, none⟩) l.length c] 30)) w5) := HB4.out.trans (P5.out.mono (by omega))
      clear o5' cells5 hb5' f0 f1 f2 f3 f4 hfn HO4
      go_wp2_with (at_builtin; refine wpList_append_own _ rfl _ _ 75 rfl (w.heap.size + 1) 9 i9 _ 1 16 Try.underlying75 hi9 hz9 hs9 hy9 rfl (by decide) _ n4 _ rfl O6.out ⟨g5, 0, none⟩ n5 cap5 (tvs (fdT l[k].fs[m])) rfl (by rw [tvs_len, Nat.mul_one]; exact HN5.out.symm) C5.out (tvs_one _) (by unfold maxLen; omega) (by omega) (by omega) ?_)
      intro v7 w7 hown hgrow _
      have O7 : Hid (Own w7 (w.heap.size + 1) v7 (n4 + n5) (LF l k l[k] (m + 1))) := by
        rw [← LF_next hlm]; unfold Hid Own; rw [tvs_app]; exact hown
      have B7 : Hid (Below (w.heap.size + 1) (w.alloc (.cells #[.slice (some ⟨b, o, none⟩) l.length c] 30)) w7) := B5.out.grown hgrow (by omega) (fun g hg => (World.ownsRow.lt O6.out g hg).1)
      clear hown hgrow
      go_wp2_with fail
      go_roundw
      case rel => exact ⟨m + 1, n4 + n5, by omega, by go_num, B7.out, O7⟩
      case measure => simp [intOf]; omega
end Go.Proofs.Ytbhkcgmlkahodaj.G
