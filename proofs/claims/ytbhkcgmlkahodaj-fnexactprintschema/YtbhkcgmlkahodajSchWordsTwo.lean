/- The program's text of a schema: a field's words, all words, and their joining. -/
import Derived.Test.YtbhkcgmlkahodajSchWords
import Derived.Test.YtbhkcgmlkahodajSchImpl
import Derived.Test.YtbhkcgmlkahodajShelf
import Derived.Lib.Join
namespace Go.Proofs.Ytbhkcgmlkahodaj.G
open Go.ChangeShapes Go.WideShapes Go.ChangeAt Go.RowKit
set_option linter.unusedVariables false

theorem agsT_n : ∀ l : List Ag, (agsT l).length ≤ 4 * l.length
  | [] => Nat.le_refl _
  | x :: l => by
    have h1 := agsT_n l
    have h2 : (tkB x.need).length ≤ 1 := by cases x.need <;> simp [tkB]
    simp only [agsT, agT, List.length_append, List.length_cons]; omega
theorem tyT_n (f : Fd) : (tyT f).length ≤ 4 ∧ 1 ≤ (tyT f).length := by
  have h2 : (tkB f.bg).length ≤ 1 := by cases f.bg <;> simp [tkB]
  unfold tyT
  rw [List.length_append]
  split <;> (simp only [List.length_cons, List.length_nil]; omega)
theorem fdA_n (l : List Ag) : (fdA l).length ≤ 2 + 4 * l.length := by
  have := agsT_n l
  unfold fdA
  split
  · simp
  · simp only [List.length_cons, List.length_append, List.length_nil]; omega
theorem fdT_n (f : Fd) : (fdT f).length ≤ 8 + 4 * f.args.length ∧ 1 ≤ (fdT f).length := by
  have h1 := fdA_n f.args
  have h2 := tyT_n f
  unfold fdT
  simp only [List.length_cons, List.length_append]; omega
theorem fdsT_n : ∀ {l : List Fd}, (∀ f ∈ l, f.args.length ≤ 4) → (fdsT l).length ≤ 24 * l.length
  | [], _ => Nat.le_refl _
  | x :: l, h => by
    have h1 := fdsT_n (l := l) (fun f hf => h f (by simp [hf]))
    have h2 := (fdT_n x).1
    have h3 := h x (by simp)
    simp only [fdsT, List.length_append, List.length_cons]; omega
theorem agT_n (x : Ag) : (agT x).length ≤ 4 ∧ 1 ≤ (agT x).length := by
  have h2 : (tkB x.need).length ≤ 1 := by cases x.need <;> simp [tkB]
  simp only [agT, List.length_cons]; omega

set_option maxHeartbeats 4000000 in
set_option maxRecDepth 40000 in
theorem impl_fieldWords (f : Fd) (a3 : Option Addr) (c3 : Nat) (w : World) (hr : AgRow 0 w.heap.size w a3 f.args) (h4 : f.args.length ≤ 4) :
    Calls Try.prog 49 #[.agg #[.string f.nm, .slice a3 f.args.length c3, .string f.ty, .bool f.ls, .bool f.bg]] w fun e w' => ∃ v n, e = .returned v ∧ Own w' w.heap.size v n (fdT f) ∧ Below w.heap.size w w' := by
  obtain ⟨i9, hi9, hz9, hs9, hy9⟩ := info_parts info9
  have HR : Hid (AgRow 0 w.heap.size w a3 f.args) := hr
  have hty := tyT_n f
  clear hr
  have fin : ∀ (v : Value) (n : Nat) (L : List (List UInt8)) (W : World), Own W (w.heap.size + 1) v n L → n ≤ 100 → Below (w.heap.size + 1) (w.alloc (.cells #[.string f.nm, .slice a3 f.args.length c3, .string f.ty, .bool f.ls, .bool f.bg] 36)) W → True := fun _ _ _ _ _ _ _ => trivial
  clear fin
  have O1 : Hid (Own ((w.alloc (.cells #[.string f.nm, .slice a3 f.args.length c3, .string f.ty, .bool f.ls, .bool f.bg] 36)).alloc (.cells #[.string f.nm] 9)) (w.heap.size + 1) (.slice (some ⟨w.heap.size + 1, 0, none⟩) 1 1) 1 [nl f.nm]) := by
    have := Own.lit (w.alloc (.cells #[.string f.nm, .slice a3 f.args.length c3, .string f.ty, .bool f.ls, .bool f.bg] 36)) #[.string f.nm] [nl f.nm] (by simp [tvs, bt_nl]) (by simp)
    unfold Hid
    simpa using this
  by_cases h0 : 0 < f.args.length
  case neg =>
    have HF : Hid (fdT f = [nl f.nm] ++ [[58]] ++ tyT f) := by
      unfold Hid fdT fdA
      rw [List.length_eq_zero_iff.1 (show f.args.length = 0 by omega)]; rfl
    have O2 : Hid (Own (((w.alloc (.cells #[.string f.nm, .slice a3 f.args.length c3, .string f.ty, .bool f.ls, .bool f.bg] 36)).alloc (.cells #[.string f.nm] 9)).alloc (.cells #[.string ⟨#[58]⟩] 9)) (w.heap.size + 1) (.slice (some ⟨w.heap.size + 1, 0, none⟩) 1 1) 1 [nl f.nm]) := O1.out.up ((Below.refl _ _).alloc (Nat.le_refl _) _)
    have L2 : Hid _ := lit_cells ((w.alloc (.cells #[.string f.nm, .slice a3 f.args.length c3, .string f.ty, .bool f.ls, .bool f.bg] 36)).alloc (.cells #[.string f.nm] 9)) #[.string ⟨#[58]⟩] 9
    have B2 : Hid (Below (w.heap.size + 1) (w.alloc (.cells #[.string f.nm, .slice a3 f.args.length c3, .string f.ty, .bool f.ls, .bool f.bg] 36)) (((w.alloc (.cells #[.string f.nm, .slice a3 f.args.length c3, .string f.ty, .bool f.ls, .bool f.bg] 36)).alloc (.cells #[.string f.nm] 9)).alloc (.cells #[.string ⟨#[58]⟩] 9))) := ((Below.refl _ _).alloc (by simp) _).alloc (by simp) _
    go_enter Try.func49, Try.ntmps49
    go_wp2_with (at_builtin; refine wpList_append_own _ rfl _ _ 75 rfl (w.heap.size + 1) 9 i9 _ 1 16 Try.underlying75 hi9 hz9 hs9 hy9 rfl (by decide) _ 1 _ rfl O2.out ⟨w.heap.size + 1 + 1, 0, none⟩ 1 1 [.string ⟨#[58]⟩] rfl rfl (by simpa using L2.out) (tvs_one [[58]]) (by unfold maxLen; omega) (by omega) (by simp) ?_)
    intro v' w3 hown hgrow _
    have O3 : Hid (Own w3 (w.heap.size + 1) v' (1 + 1) ([nl f.nm] ++ [[58]])) := by unfold Hid Own; rw [tvs_app]; exact hown
    have B3 : Hid (Below (w.heap.size + 1) (w.alloc (.cells #[.string f.nm, .slice a3 f.args.length c3, .string f.ty, .bool f.ls, .bool f.bg] 36)) w3) := B2.out.grown hgrow (by simp) (fun g hg => (World.ownsRow.lt O2.out g hg).1)
    have z3 := size_one B3.out
    have k3 := fun o => B3.out.cell (p := ⟨w.heap.size, o, none⟩) (show w.heap.size < w.heap.size + 1 by omega)
    clear hown hgrow
    go_wp2_with fail
    refine (impl_typeWords f a3 c3 _).mono ?_
    rintro e w8 ⟨v8, n8, rfl, o8, hb8⟩
    have HN8 : Hid (n8 = (tyT f).length) := o8.len
    have hn8a : 0 < n8 := by rw [HN8.out]; omega
    have hn8b : n8 ≤ 4 := by rw [HN8.out]; omega
    have O8 : Hid (Own w8 (w.heap.size + 1) _ (1 + 1) ([nl f.nm] ++ [[58]])) := O3.out.up hb8
    obtain ⟨g8, cap8, hv8, hg8, hl8, hc8, cells8⟩ := o8.open_ (by omega)
    subst hv8
    have C8 : Hid _ := cells8
    have B8 : Hid (Below (w.heap.size + 1) (w.alloc (.cells #[.string f.nm, .slice a3 f.args.length c3, .string f.ty, .bool f.ls, .bool f.bg] 36)) w8) := B3.out.trans (hb8.mono (by omega))
    have z8 := size_one B8.out
    clear o8 cells8 hb8
    go_wp2_with (at_builtin; refine wpList_append_own _ rfl _ _ 75 rfl (w.heap.size + 1) 9 i9 _ 1 16 Try.underlying75 hi9 hz9 hs9 hy9 rfl (by decide) _ (1 + 1) _ rfl O8.out ⟨g8, 0, none⟩ n8 cap8 (tvs (tyT f)) rfl (by rw [tvs_len, Nat.mul_one]; exact HN8.out.symm) C8.out (tvs_one _) (by unfold maxLen; omega) (by omega) (by omega) ?_)
    intro v9 w9 hown hgrow _
    have HN : Hid (Own w9 w.heap.size v9 (1 + 1 + n8) (fdT f)) := by
      rw [HF.out]
      refine Own.low (base := w.heap.size + 1) ?_ (by omega)
      unfold Own; rw [tvs_app]
      first | exact hown | simpa using hown
    have Q9 : Hid (Below w.heap.size w w9) := ((Below.refl _ _).alloc (Nat.le_refl _) _).trans ((B8.out.grown hgrow (by omega) (fun g hg => (World.ownsRow.lt O8.out g hg).1)).mono (by omega))
    clear hown hgrow
    go_wp2_with fail
    go_ret
    exact ⟨_, _, rfl, HN.out, Q9.out⟩
  have HF : Hid (fdT f = [nl f.nm] ++ [[40]] ++ agsT f.args ++ [[41]] ++ [[58]] ++ tyT f) := by
    unfold Hid fdT fdA
    rw [if_neg (by rw [List.isEmpty_iff]; intro h; rw [h] at h0; simp at h0)]; simp
  have O2 : Hid (Own (((w.alloc (.cells #[.string f.nm, .slice a3 f.args.length c3, .string f.ty, .bool f.ls, .bool f.bg] 36)).alloc (.cells #[.string f.nm] 9)).alloc (.cells #[.string ⟨#[40]⟩] 9)) (w.heap.size + 1) (.slice (some ⟨w.heap.size + 1, 0, none⟩) 1 1) 1 [nl f.nm]) := O1.out.up ((Below.refl _ _).alloc (Nat.le_refl _) _)
  have L2 : Hid _ := lit_cells ((w.alloc (.cells #[.string f.nm, .slice a3 f.args.length c3, .string f.ty, .bool f.ls, .bool f.bg] 36)).alloc (.cells #[.string f.nm] 9)) #[.string ⟨#[40]⟩] 9
  have B2 : Hid (Below (w.heap.size + 1) (w.alloc (.cells #[.string f.nm, .slice a3 f.args.length c3, .string f.ty, .bool f.ls, .bool f.bg] 36)) (((w.alloc (.cells #[.string f.nm, .slice a3 f.args.length c3, .string f.ty, .bool f.ls, .bool f.bg] 36)).alloc (.cells #[.string f.nm] 9)).alloc (.cells #[.string ⟨#[40]⟩] 9))) := ((Below.refl _ _).alloc (by simp) _).alloc (by simp) _
  go_enter Try.func49, Try.ntmps49
  go_wp2_with (at_builtin; refine wpList_append_own _ rfl _ _ 75 rfl (w.heap.size + 1) 9 i9 _ 1 16 Try.underlying75 hi9 hz9 hs9 hy9 rfl (by decide) _ 1 _ rfl O2.out ⟨w.heap.size + 1 + 1, 0, none⟩ 1 1 [.string ⟨#[40]⟩] rfl rfl (by simpa using L2.out) (tvs_one [[40]]) (by unfold maxLen; omega) (by omega) (by simp) ?_)
  intro v' w3 hown hgrow _
  have O3 : Hid (Own w3 (w.heap.size + 1) v' 2 ([nl f.nm] ++ [[40]] ++ agsT (f.args.take 0))) := by
    unfold Hid Own
    rw [List.take_zero]
    show w3.ownsRow _ _ _ _ _ (tvs (([nl f.nm] ++ [[40]]) ++ []))
    rw [List.append_nil, tvs_app]; exact hown
  have B3 : Below (w.heap.size + 1) (w.alloc (.cells #[.string f.nm, .slice a3 f.args.length c3, .string f.ty, .bool f.ls, .bool f.bg] 36)) w3 := B2.out.grown hgrow (by simp) (fun g hg => (World.ownsRow.lt O2.out g hg).1)
  have k3 := fun o => B3.cell (p := ⟨w.heap.size, o, none⟩) (show w.heap.size < w.heap.size + 1 by omega)
  clear hown hgrow
  go_wp2_with fail
  go_loopw [3, 19] (fun v i w' => ∃ (k n : Nat), k ≤ f.args.length ∧ i = .int .i64 k ∧ Below (w.heap.size + 1) (w.alloc (.cells #[.string f.nm, .slice a3 f.args.length c3, .string f.ty, .bool f.ls, .bool f.bg] 36)) w' ∧ Hid (Own w' (w.heap.size + 1) v n ([nl f.nm] ++ [[40]] ++ agsT (f.args.take k)))) (fun _ i _ => f.args.length - (intOf i).toNat)
  case atStart => exact ⟨0, 2, by omega, rfl, B3, O3⟩
  case round =>
    obtain ⟨wr0, rfl⟩ : ∃ x, x = wr := ⟨_, rfl⟩
    obtain ⟨k, n, hk, rfl, hb, HO⟩ := hrel
    have hnl := HO.out.len
    have hag := agsT_n (f.args.take k)
    have hn40 : n ≤ 40 := by rw [hnl]; simp only [List.length_append, List.length_cons, List.length_nil] at hag ⊢; rw [List.length_take] at hag; omega
    clear hnl hag
    have hz := size_one hb
    have hzz : w.heap.size < wr0.heap.size := by omega
    have HB : Hid _ := hb
    have Q0 : Hid (Below w.heap.size w wr0) := ((Below.refl _ _).alloc (Nat.le_refl _) _).trans (hb.mono (by omega))
    have k0 := fun o => hb.cell (p := ⟨w.heap.size, o, none⟩) (show w.heap.size < w.heap.size + 1 by omega)
    clear hb
    by_cases hlt : k < f.args.length
    case pos =>
      obtain ⟨b, o, ha, _, hbl, d0, d1⟩ := AgRow.cells (AgRow.keep HR.out (agree Q0.out (Nat.le_refl _))) k hlt
      subst ha
      have hbo : b < wr0.heap.size := by omega
      have O5 : Hid (Own ((wr0.alloc (.cells #[.string f.args[k].nm, .bool f.args[k].need] 70)).alloc (.cells #[.string f.args[k].nm, .string ⟨#[58]⟩, .string ⟨#[73, 110, 116]⟩] 9)) (wr0.heap.size + 1) (.slice (some ⟨wr0.heap.size + 1, 0, none⟩) 3 3) 3 [nl f.args[k].nm, [58], [73, 110, 116]]) := by
        have := Own.lit (wr0.alloc (.cells #[.string f.args[k].nm, .bool f.args[k].need] 70)) #[.string f.args[k].nm, .string ⟨#[58]⟩, .string ⟨#[73, 110, 116]⟩] [nl f.args[k].nm, [58], [73, 110, 116]] (by simp [tvs, bt_nl]) (by simp)
        unfold Hid
        simpa using this
      have HX : Hid (([nl f.nm] ++ [[40]] ++ agsT (f.args.take k)) ++ ([nl f.args[k].nm, [58], [73, 110, 116]] ++ tkB f.args[k].need) = [nl f.nm] ++ [[40]] ++ agsT (f.args.take (k + 1))) := by
        rw [Hid, agsT_take hlt]; simp [agT]
      clear k0
      go_wp2_with fail
      refine (impl_banged f.args[k].need _ 3 (wr0.heap.size + 1) [nl f.args[k].nm, [58], [73, 110, 116]] _ O5.out (by simp) (by omega)).mono ?_
      rintro e w5 ⟨v5, n5, rfl, o5, hb5⟩
      have P5 : Hid (Below wr0.heap.size wr0 w5) := (((Below.refl _ _).alloc (Nat.le_refl _) _).alloc (by simp) _).trans (hb5.mono (by omega))
      have z5 := P5.out.size
      have HN5 : Hid (n5 = ([nl f.args[k].nm, [58], [73, 110, 116]] ++ tkB f.args[k].need).length) := o5.len
      have hn5a : 0 < n5 := by rw [HN5.out]; simp
      have hn5b : n5 ≤ 4 := by rw [HN5.out]; have := (agT_n f.args[k]).1; simp [agT] at this ⊢; omega
      obtain ⟨g5, cap5, hv5, hg5, hl5, hc5, cells5⟩ := o5.open_ hn5a
      subst hv5
      have C5 : Hid _ := cells5
      have O6 : Hid (Own w5 (w.heap.size + 1) _ n ([nl f.nm] ++ [[40]] ++ agsT (f.args.take k))) := HO.out.up P5.out
      have B5 : Hid (Below (w.heap.size + 1) (w.alloc (.cells #[.string f.nm, .slice (some ⟨b, o, none⟩) f.args.length c3, .string f.ty, .bool f.ls, .bool f.bg] 36)) w5) := HB.out.trans (P5.out.mono (by omega))
      clear o5 cells5 hb5 d0 d1
      go_wp2_with (at_builtin; refine wpList_append_own _ rfl _ _ 75 rfl (w.heap.size + 1) 9 i9 _ 1 16 Try.underlying75 hi9 hz9 hs9 hy9 rfl (by decide) _ n _ rfl O6.out ⟨g5, 0, none⟩ n5 cap5 (tvs ([nl f.args[k].nm, [58], [73, 110, 116]] ++ tkB f.args[k].need)) rfl (by rw [tvs_len, Nat.mul_one]; exact HN5.out.symm) C5.out (tvs_one _) (by unfold maxLen; omega) (by omega) (by omega) ?_)
      intro v6 w6 hown hgrow _
      have O7 : Hid (Own w6 (w.heap.size + 1) v6 (n + n5) ([nl f.nm] ++ [[40]] ++ agsT (f.args.take (k + 1)))) := by
        rw [← HX.out]; unfold Hid Own; rw [tvs_app]; exact hown
      have B6 : Hid (Below (w.heap.size + 1) (w.alloc (.cells #[.string f.nm, .slice (some ⟨b, o, none⟩) f.args.length c3, .string f.ty, .bool f.ls, .bool f.bg] 36)) w6) := B5.out.grown hgrow (by omega) (fun g hg => (World.ownsRow.lt O6.out g hg).1)
      clear hown hgrow
      go_wp2_with fail
      go_roundw
      case rel => exact ⟨k + 1, n + n5, by omega, by go_num, B6.out, O7⟩
      case measure => simp [intOf]; omega
    have e : k = f.args.length := by omega
    have HO0 := HO.out
    rw [e, List.take_length] at HO0
    have HO1 : Hid _ := HO0
    clear HO0
    have L1 : Hid _ := lit_cells wr0 #[.string ⟨#[41]⟩] 9
    have HO2 : Hid (Own (wr0.alloc (.cells #[.string ⟨#[41]⟩] 9)) (w.heap.size + 1) _ n ([nl f.nm] ++ [[40]] ++ agsT f.args)) := Own.up HO1.out ((Below.refl _ _).alloc (Nat.le_refl _) _)
    clear HO e
    go_wp2_with (at_builtin; refine wpList_append_own _ rfl _ _ 75 rfl (w.heap.size + 1) 9 i9 _ 1 16 Try.underlying75 hi9 hz9 hs9 hy9 rfl (by decide) _ n _ rfl HO2.out ⟨wr0.heap.size, 0, none⟩ 1 1 [.string ⟨#[41]⟩] rfl rfl L1.out (tvs_one [[41]]) (by unfold maxLen; omega) (by omega) (by simp; omega) ?_)
    intro v6 w6 hown hgrow _
    have O7 : Hid (Own w6 (w.heap.size + 1) v6 (n + 1) ([nl f.nm] ++ [[40]] ++ agsT f.args ++ [[41]])) := by unfold Hid Own; rw [tvs_app]; exact hown
    have B6 : Hid (Below (w.heap.size + 1) (w.alloc (.cells #[.string f.nm, .slice a3 f.args.length c3, .string f.ty, .bool f.ls, .bool f.bg] 36)) w6) := (HB.out.alloc (by omega) _).grown hgrow (by simp; omega) (fun g hg => (World.ownsRow.lt HO2.out g hg).1)
    have z6 := size_one B6.out
    have k6 := fun o => B6.out.cell (p := ⟨w.heap.size, o, none⟩) (show w.heap.size < w.heap.size + 1 by omega)
    have L6 : Hid _ := lit_cells w6 #[.string ⟨#[58]⟩] 9
    have O8' : Hid (Own (w6.alloc (.cells #[.string ⟨#[58]⟩] 9)) (w.heap.size + 1) v6 (n + 1) ([nl f.nm] ++ [[40]] ++ agsT f.args ++ [[41]])) := O7.out.up ((Below.refl _ _).alloc (Nat.le_refl _) _)
    clear hown hgrow k0
    go_wp2_with (at_builtin; refine wpList_append_own _ rfl _ _ 75 rfl (w.heap.size + 1) 9 i9 _ 1 16 Try.underlying75 hi9 hz9 hs9 hy9 rfl (by decide) _ (n + 1) _ rfl O8'.out ⟨w6.heap.size, 0, none⟩ 1 1 [.string ⟨#[58]⟩] rfl rfl L6.out (tvs_one [[58]]) (by unfold maxLen; omega) (by omega) (by simp; omega) ?_)
    intro v7 w7 hown hgrow _
    have O3 : Hid (Own w7 (w.heap.size + 1) v7 (n + 1 + 1) ([nl f.nm] ++ [[40]] ++ agsT f.args ++ [[41]] ++ [[58]])) := by unfold Hid Own; rw [tvs_app]; exact hown
    have B3' : Hid (Below (w.heap.size + 1) (w.alloc (.cells #[.string f.nm, .slice a3 f.args.length c3, .string f.ty, .bool f.ls, .bool f.bg] 36)) w7) := (B6.out.alloc (by omega) _).grown hgrow (by simp; omega) (fun g hg => (World.ownsRow.lt O8'.out g hg).1)
    have z3 := size_one B3'.out
    have k3 := fun o => B3'.out.cell (p := ⟨w.heap.size, o, none⟩) (show w.heap.size < w.heap.size + 1 by omega)
    clear hown hgrow k6
    go_wp2_with fail
    refine (impl_typeWords f a3 c3 _).mono ?_
    rintro e w8 ⟨v8, n8, rfl, o8, hb8⟩
    have HN8 : Hid (n8 = (tyT f).length) := o8.len
    have hn8a : 0 < n8 := by rw [HN8.out]; omega
    have hn8b : n8 ≤ 4 := by rw [HN8.out]; omega
    have O8 : Hid (Own w8 (w.heap.size + 1) _ (n + 1 + 1) ([nl f.nm] ++ [[40]] ++ agsT f.args ++ [[41]] ++ [[58]])) := O3.out.up hb8
    obtain ⟨g8, cap8, hv8, hg8, hl8, hc8, cells8⟩ := o8.open_ (by omega)
    subst hv8
    have C8 : Hid _ := cells8
    have B8 : Hid (Below (w.heap.size + 1) (w.alloc (.cells #[.string f.nm, .slice a3 f.args.length c3, .string f.ty, .bool f.ls, .bool f.bg] 36)) w8) := B3'.out.trans (hb8.mono (by omega))
    have z8 := size_one B8.out
    clear o8 cells8 hb8
    go_wp2_with (at_builtin; refine wpList_append_own _ rfl _ _ 75 rfl (w.heap.size + 1) 9 i9 _ 1 16 Try.underlying75 hi9 hz9 hs9 hy9 rfl (by decide) _ (n + 1 + 1) _ rfl O8.out ⟨g8, 0, none⟩ n8 cap8 (tvs (tyT f)) rfl (by rw [tvs_len, Nat.mul_one]; exact HN8.out.symm) C8.out (tvs_one _) (by unfold maxLen; omega) (by omega) (by omega) ?_)
    intro v9 w9 hown hgrow _
    have HN : Hid (Own w9 w.heap.size v9 (n + 1 + 1 + n8) (fdT f)) := by
      rw [HF.out]
      refine Own.low (base := w.heap.size + 1) ?_ (by omega)
      unfold Own; rw [tvs_app]
      first | exact hown | simpa using hown
    have Q9 : Hid (Below w.heap.size w w9) := ((Below.refl _ _).alloc (Nat.le_refl _) _).trans ((B8.out.grown hgrow (by omega) (fun g hg => (World.ownsRow.lt O8.out g hg).1)).mono (by omega))
    clear hown hgrow
    go_wp2_with fail
    go_ret
    exact ⟨_, _, rfl, HN.out, Q9.out⟩
end Go.Proofs.Ytbhkcgmlkahodaj.G
