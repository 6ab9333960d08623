/- The law FnLex, walked. -/
import Derived.Test.YtjbogjoadcikhaaDoorLawMath
import Derived.Test.YtjbogjoadcikhaaDoorImplJ
namespace Go.Proofs.YtjbogjoadcikhaaDoor
open Go.ChangeShapes Go.WideShapes Go.ChangeAt Go.RowKit
open L (Drawn)
set_option linter.unusedVariables false

theorem tvs_at : ∀ (l : List Tk) (i : Nat) (x : Tk), l[i]? = some x → (L.tvs l)[i * 3]? = some (.int .i64 x.k) ∧ (L.tvs l)[i * 3 + 1]? = some (.int .i64 x.n) ∧ (L.tvs l)[i * 3 + 2]? = some (.string x.t)
  | [], i, x, h => by simp at h
  | y :: r, 0, x, h => by
    simp only [List.getElem?_cons_zero, Option.some.injEq] at h
    subst h
    exact ⟨rfl, rfl, rfl⟩
  | y :: r, i + 1, x, h => by
    have ih := tvs_at r i x (by simpa using h)
    have e : L.tvs (y :: r) = .int .i64 y.k :: .int .i64 y.n :: .string y.t :: L.tvs r := rfl
    rw [e, show (i + 1) * 3 = i * 3 + 3 by omega]
    exact ih
theorem own_row {w : World} {base n c : Nat} {a : Option Addr} {l : List Tk} (h : w.ownsRow base 29 3 (.slice a n c) n (L.tvs l)) : TokRow w.heap.size w a l := by
  rcases h.2 with ⟨_, h0⟩ | ⟨g, cap, cur, h1, h2, h3, h4, h5, h6, h7⟩
  · left
    have := h.1
    rw [L.tvs_length, h0] at this
    exact List.length_eq_zero_iff.1 (by omega)
  · simp only [Value.slice.injEq] at h1
    obtain ⟨rfl, _, _⟩ := h1
    refine .inr ⟨g, 0, rfl, (Array.getElem?_eq_some_iff.1 h3).1, Nat.le_refl _, fun i x hx => ?_⟩
    have hi : i < l.length := (List.getElem?_eq_some_iff.1 hx).1
    have hl := h.1
    rw [L.tvs_length] at hl
    obtain ⟨e0, e1, e2⟩ := tvs_at l i x hx
    rw [← h7, List.getElem?_take, if_pos (by omega)] at e0 e1 e2
    rw [row_cell h3, row_cell h3, row_cell h3, Nat.zero_add]
    exact ⟨by simpa using e0, by simpa using e1, by simpa using e2⟩
theorem row_up {w w' : World} {a : Option Addr} {l : List Tk} (h : TokRow w.heap.size w a l) (hb : Below w.heap.size w w') : TokRow w'.heap.size w' a l := by
  rcases h.below hb (Nat.le_refl _) with h | ⟨b, o, rfl, h1, h2, h3⟩
  · exact .inl h
  · exact .inr ⟨b, o, rfl, by have := hb.size; omega, Nat.le_refl _, h3⟩
theorem bytes_up {w w' : World} {a : Option Addr} {n : Nat} (h : ByteRow w.heap.size w a n) (hb : Below w.heap.size w w') : ByteRow w'.heap.size w' a n := by
  rcases h.keep hb.size (fun k hk => hb.block k hk) with h | ⟨b, o, rfl, h1, h2, h3⟩
  · exact .inl h
  · exact .inr ⟨b, o, rfl, by have := hb.size; omega, Nat.le_refl _, h3⟩
theorem txt_pos (x : Tk) (h : isTok x) : 0 < (txt x).length := (tok_S x [] [] h (fun c r e => by cases e)).2.2
def gapsB : List ByteArray := [⟨#[32]⟩, ⟨#[44]⟩, ⟨#[10]⟩, ⟨#[32, 44, 32, 35, 32, 120, 10]⟩]
theorem gapsB_at (v : Nat) (h : v < 4) : ∃ g, g ∈ gaps ∧ gapsB[v]? = some (S g) := by
  have : v = 0 ∨ v = 1 ∨ v = 2 ∨ v = 3 := by omega
  rcases this with rfl | rfl | rfl | rfl
  · exact ⟨[32], by simp [gaps], rfl⟩
  · exact ⟨[44], by simp [gaps], rfl⟩
  · exact ⟨[10], by simp [gaps], rfl⟩
  · exact ⟨[32, 44, 32, 35, 32, 120, 10], by simp [gaps], rfl⟩

set_option maxRecDepth 40000 in
set_option maxHeartbeats 4000000 in
theorem walk (a a' : Option Addr) (n m c c' : Nat) (w : World) (hv : L.Vars w) (hr : ByteRow w.heap.size w a n) (hr' : ByteRow w.heap.size w a' m) :
    Calls Tryd.prog 3 #[.slice a n c, .slice a' m c'] w fun e w' => e = .returned (.bool true) ∧ Below w.heap.size w w' := by
  by_cases h1 : 1048576 < n
  · clear hr hr' hv
    go_enter Tryd.func3, Tryd.ntmps3
    go_wp2_with fail
    go_ret
    exact ⟨rfl, Below.refl _ _⟩
  by_cases h2 : 1048576 < m
  · clear hr hr' hv
    go_enter Tryd.func3, Tryd.ntmps3
    go_wp2_with fail
    go_ret
    exact ⟨rfl, Below.refl _ _⟩
  have HV : Hid (L.Vars w) := hv
  have h5 := hv.lt
  have HR : Hid (ByteRow w.heap.size w a n) := hr
  have HR' : Hid (ByteRow w.heap.size w a' m) := hr'
  clear hr hr' hv
  go_enter Tryd.func3, Tryd.ntmps3
  go_wp2_with fail
  refine (L.tokensOf_any a n c _ HR.out (by omega)).mono ?_
  rintro e w1 ⟨l, la, lc, hd, rfl, ho, hb1⟩
  have hl := hd.1
  have HD : Hid (Drawn l) := hd
  have R1 : Hid (TokRow w1.heap.size w1 la l) := own_row ho
  have HV1 : Hid (L.Vars w1) := HV.out.below hb1 h5
  have z1 := hb1.size
  have hjc := joinC_0 hd
  have hts : Hid (∀ x ∈ l, x.t.size ≤ 1048576) := fun x hx => by have := (hd.2 x hx).2; omega
  obtain ⟨T, hT, hTs, hL1, hL2⟩ : ∃ T, joinB l = T ∧ T.size ≤ 198 ∧ lexB T = (l, 0) ∧ lexB (T ++ ⟨#[32, 37]⟩) = ([], 3) :=
    ⟨_, rfl, by rw [joinB_S hd, S_size]; exact join_size hd, lex_join hd, lex_pct hd⟩
  have HJ5 : Hid (∀ W : World, Pow W → TokRow W.heap.size W la l → Calls Tryd.prog 5 #[.slice la l.length lc] W fun e w' => e = .returned (.tuple #[.string T, .int .i64 0]) ∧ Below W.heap.size W w') := by
    intro W hp hr
    have := impl_joinToks la lc l W hp hr (by omega) hts.out
    rw [hT, hjc] at this
    exact this
  have HJ6 : Hid (∀ W : World, TokRow W.heap.size W la l → Calls Tryd.prog 6 #[.slice la l.length lc] W fun e w' => e = .returned (.tuple #[.string T, .int .i64 0]) ∧ Below W.heap.size W w') := by
    intro W hr
    have := spec_joinToks la lc l W hr (by omega) hts.out
    rw [hT, hjc] at this
    exact this
  have HX1 : Hid (∀ W : World, L.Vars W → Calls Tryd.prog 10 #[.string T] W (L.LexIs (l, 0) W)) := fun W hW => by rw [← hL1]; exact L.impl_Lex T W (by unfold maxLen; omega) hW
  have hTs2 : (T ++ ⟨#[32, 37]⟩).size ≤ maxLen := by rw [ByteArray.size_append]; unfold maxLen; have : (⟨#[32, 37]⟩ : ByteArray).size = 2 := rfl; omega
  have HX2 : Hid (∀ W : World, L.Vars W → Calls Tryd.prog 10 #[.string (T ++ ⟨#[32, 37]⟩)] W (L.LexIs ([], 3) W)) := fun W hW => by rw [← hL2]; exact L.impl_Lex _ W hTs2 hW
  clear hd ho hjc hT hL1 hL2 hTs2
  go_wp2_with fail
  refine (HJ5.out _ HV1.out.1 R1.out).mono ?_
  rintro e w2 ⟨rfl, hb2⟩
  have R2 : Hid (TokRow w2.heap.size w2 la l) := row_up R1.out hb2
  go_wp2_with fail
  refine (HJ6.out _ R2.out).mono ?_
  rintro e w3 ⟨rfl, hb3⟩
  have q3 := hb2.trans (hb3.mono hb2.size)
  clear R2 hb2 hb3
  go_wp2_with fail
  go_loopw [10, 11] (fun v i wr => ∃ (k : Nat) (t : ByteArray), k ≤ l.length ∧ i = .int .i64 k ∧ v = .string t ∧ Hid (Wide l k t) ∧ t.size ≤ 300 ∧ Below w1.heap.size w1 wr) (fun _ i _ => l.length - (intOf i).toNat)
  case atStart => exact ⟨0, _, Nat.zero_le _, rfl, rfl, Wide.zero l, by decide, q3⟩
  case round =>
    rename_i wr
    obtain ⟨k, t, hk, rfl, rfl, HW, hts3, hbr⟩ := hrel
    by_cases hlt : k < l.length
    · have qr := hb1.trans (hbr.mono z1)
      have HVr : Hid (L.Vars wr) := HV.out.below qr h5
      have htk := (HD.out.2 l[k] (List.getElem_mem hlt)).1
      have htz := (HD.out.2 l[k] (List.getElem_mem hlt)).2
      obtain ⟨b, o, ha, hbl, c0, c1, c2⟩ := (row_up R1.out hbr).at_ k hlt
      subst ha
      obtain ⟨X, hX⟩ : ∃ X, textS l[k].k l[k].n l[k].t = X := ⟨_, rfl⟩
      have hX0 : 0 < X.size := by rw [← hX, text_S, S_size]; exact txt_pos _ htk
      have hX11 : X.size ≤ 11 := by rw [← hX, text_S, S_size]; exact txt_len _ htk htz
      have HWP : Hid (∀ g ∈ gaps, Wide l (k + 1) (t ++ (X ++ S g))) := fun g hg => by rw [← hX]; exact HW.out.put hlt g hg
      have H7 : Hid (∀ W : World, Pow W → Calls Tryd.prog 7 #[.agg #[.int .i64 l[k].k, .int .i64 l[k].n, .string l[k].t]] W fun e w' => e = .returned (.tuple #[.string X, .int .i64 0]) ∧ Below W.heap.size W w') := fun W hp => by
        rw [← hX]; exact impl_tokText_yes _ _ _ W (by omega) hp htk
      have H8 : Hid (∀ W : World, Calls Tryd.prog 8 #[.agg #[.int .i64 l[k].k, .int .i64 l[k].n, .string l[k].t]] W fun e w' => e = .returned (.bool true) ∧ Below W.heap.size W w') := fun W => by
        have := impl_tokOK l[k].k l[k].n l[k].t W (by unfold maxLen; omega)
        rw [show tokB l[k].k l[k].n l[k].t = true from htk] at this
        exact this
      clear hX htk htz HW
      generalize l[k].k = xk at *
      generalize l[k].n = xn at *
      generalize l[k].t = xt at *
      have hlt' : (k : Int) < l.length := by omega
      go_wp2_with fail
      refine (H7.out _ HVr.out.1).mono ?_
      rintro e w2 ⟨rfl, hb2⟩
      have e0 := (hb2.cell (p := ⟨b, o + k * 3, none⟩) hbl).trans c0
      have e1 := (hb2.cell (p := ⟨b, o + k * 3 + 1, none⟩) hbl).trans c1
      have e2 := (hb2.cell (p := ⟨b, o + k * 3 + 2, none⟩) hbl).trans c2
      clear c0 c1 c2
      have hX0' : ((X.size : Int) == 0) = false := by rw [beq_eq_false_iff_ne]; omega
      have q2 := hbr.trans (hb2.mono hbr.size)
      go_wp2_with fail
      refine (H8.out _).mono ?_
      rintro e w4 ⟨rfl, hb4⟩
      have q4 := q2.trans (hb4.mono q2.size)
      have q4w := hb1.trans (q4.mono z1)
      have HB4 : Hid (ByteRow (w4.alloc (.cells #[.string ⟨#[32]⟩, .string ⟨#[44]⟩, .string ⟨#[10]⟩, .string ⟨#[32, 44, 32, 35, 32, 120, 10]⟩] 9)).heap.size (w4.alloc (.cells #[.string ⟨#[32]⟩, .string ⟨#[44]⟩, .string ⟨#[10]⟩, .string ⟨#[32, 44, 32, 35, 32, 120, 10]⟩] 9)) a' m) := bytes_up HR'.out (q4w.alloc q4w.size _)
      clear e0 e1 e2
      go_wp2_with fail
      refine (at_any a' m c' k _ HB4.out (by omega) (by omega)).mono ?_
      rintro e w5 ⟨⟨v, hv4, rfl⟩, hb5⟩
      obtain ⟨g, hg, hgv⟩ := gapsB_at v hv4
      have eg : w5.cell? ⟨w4.heap.size, v, none⟩ = some (.string (S g)) := (hb5.cell (p := ⟨w4.heap.size, v, none⟩) (by simp)).trans (L.pick_cells gapsB w4 v _ hgv)
      have HWg : Hid (Wide l (k + 1) (t ++ (X ++ S g))) := HWP.out g hg
      have hgs : (S g).size ≤ 7 := by rw [S_size]; exact (gaps_ok g hg).2.2
      have hsz := HWg.out.size HD.out
      have q5 : Below w1.heap.size w1 w5 := (q4.alloc q4.size _).trans (hb5.mono (by have := q4.size; simp; omega))
      clear HWP hgv hg HB4
      generalize S g = G at *
      have hn1 : ¬ (9223372036854775807 < X.size + G.size) := by omega
      have hn2 : ¬ (9223372036854775807 < t.size + (X ++ G).size) := by rw [ByteArray.size_append]; omega
      have hn3 : ¬ (9223372036854775807 < t.size + (X.size + G.size)) := by omega
      have hv' : (v : Int) < 4 := by omega
      go_wp2_with fail
      exact ⟨⟨k + 1, _, by omega, by go_num, rfl, HWg, hsz, q5⟩, by simp [intOf]; omega⟩
    · obtain rfl : k = l.length := by omega
      have qr := hb1.trans (hbr.mono z1)
      have HVr : Hid (L.Vars wr) := HV.out.below qr h5
      have HX3 : Hid (∀ W : World, L.Vars W → Calls Tryd.prog 10 #[.string t] W (L.LexIs (l, 0) W)) := fun W hW => by rw [← HW.out.lex HD.out]; exact L.impl_Lex t W (by unfold maxLen; omega) hW
      have Rr : Hid (TokRow wr.heap.size wr la l) := row_up R1.out hbr
      clear HW
      go_wp2_with fail
      refine (HX1.out _ HVr.out).mono ?_
      rintro e w2 ⟨xa, xc, rfl, xo, hb2⟩
      have RX : Hid (TokRow w2.heap.size w2 xa l) := own_row xo
      have R2 : Hid (TokRow w2.heap.size w2 la l) := row_up Rr.out hb2
      have p2 := qr.trans (hb2.mono qr.size)
      have HV2 : Hid (L.Vars w2) := HV.out.below p2 h5
      clear xo
      go_wp2_with fail
      refine (HX3.out _ HV2.out).mono ?_
      rintro e w4 ⟨ya, yc, rfl, yo, hb4⟩
      have RY : Hid (TokRow w4.heap.size w4 ya l) := own_row yo
      have RX4 : Hid (TokRow w4.heap.size w4 xa l) := row_up RX.out hb4
      have R4 : Hid (TokRow w4.heap.size w4 la l) := row_up R2.out hb4
      have p4 := p2.trans (hb4.mono p2.size)
      clear yo RX R2
      go_wp2_with fail
      go_loopw [18] (fun i wq => ∃ k : Nat, k ≤ l.length ∧ i = .int .i64 k ∧ Below w4.heap.size w4 wq) (fun i _ => l.length - (intOf i).toNat)
      case atStart => exact ⟨0, Nat.zero_le _, rfl, Below.refl _ _⟩
      case round =>
        obtain ⟨k, hk, rfl, hbq⟩ := hrel
        by_cases hlt : k < l.length
        · obtain ⟨b, o, ha, hbl, c0, c1, c2⟩ := (row_up R4.out hbq).at_ k hlt
          obtain ⟨b', o', ha', hbl', d0, d1, d2⟩ := (row_up RX4.out hbq).at_ k hlt
          obtain ⟨b'', o'', ha'', hbl'', f0, f1, f2⟩ := (row_up RY.out hbq).at_ k hlt
          subst ha
          subst ha'
          subst ha''
          generalize l[k].k = xk at *
          generalize l[k].n = xn at *
          generalize l[k].t = xt at *
          have hlt' : (k : Int) < l.length := by omega
          go_wp2_with fail
          go_quiet (fail)
          go_wp2_with fail
          exact ⟨⟨k + 1, by omega, by go_num, hbq.trans (by exact ⟨rfl, rfl, rfl, Nat.le_refl _, fun _ _ => rfl⟩)⟩, by simp [intOf]; omega⟩
        · have hno : ¬ (9223372036854775807 < T.size + (⟨#[32, 37]⟩ : ByteArray).size) := by have : (⟨#[32, 37]⟩ : ByteArray).size = 2 := rfl; omega
          have pq := p4.trans (hbq.mono p4.size)
          have HVq : Hid (L.Vars _) := HV.out.below pq h5
          have i1 : intB 2147483647 = true := by decide
          have i2 : intB 2147483648 = false := by decide
          go_wp2_with fail
          refine (HX2.out _ HVq.out).mono ?_
          rintro e w6 ⟨za, zc, rfl, zo, hb6⟩
          clear zo
          go_wp2_with fail
          refine (impl_isInt _ _).mono ?_
          rintro e w7 ⟨rfl, rfl⟩
          go_wp2_with fail
          refine (impl_isInt _ _).mono ?_
          rintro e w8 ⟨rfl, rfl⟩
          go_wp2_with fail
          go_ret
          exact ⟨rfl, pq.trans (hb6.mono pq.size)⟩
end Go.Proofs.YtjbogjoadcikhaaDoor
