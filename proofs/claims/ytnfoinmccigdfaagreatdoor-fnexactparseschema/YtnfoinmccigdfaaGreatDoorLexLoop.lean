/- Reading a text into tokens: that the specification's text of it does it. -/
import Derived.Test.YtnfoinmccigdfaaGreatDoorLexNextDots
namespace Go.Proofs.YtnfoinmccigdfaaGreatDoor
open Go.ChangeShapes Go.WideShapes Go.ChangeAt Go.RowKit
set_option linter.unusedVariables false

def tv (x : Tk) : List Value := [.int .i64 x.k, .int .i64 x.n, .string x.t]
def tvs (l : List Tk) : List Value := l.flatMap tv
theorem tvs_snoc (l : List Tk) (x : Tk) : tvs l ++ [.int .i64 x.k, .int .i64 x.n, .string x.t] = tvs (l ++ [x]) := by
  simp [tvs, tv]
theorem tvs_length (l : List Tk) : (tvs l).length = l.length * 3 := by
  induction l with
  | nil => rfl
  | cons x r ih => simp only [tvs, List.flatMap_cons, List.length_append, List.length_cons] at *; simp only [tv, List.length_cons, List.length_nil]; omega
theorem own_below {w w' : World} {base : Nat} {e : TypeId} {size n : Nat} {v : Value} {xs : List Value} (h : w.ownsRow base e size v n xs) (hb : Below w.heap.size w w') : w'.ownsRow base e size v n xs := by
  refine ⟨h.1, ?_⟩
  rcases h.2 with h | ⟨g, cap, cur, h1, h2, h3, h4⟩
  · exact .inl h
  · exact .inr ⟨g, cap, cur, h1, h2, (hb.block g (Array.getElem?_eq_some_iff.1 h3).1).trans h3, h4⟩
theorem own_shape {w : World} {base : Nat} {e : TypeId} {size n : Nat} {v : Value} {xs : List Value} (h : w.ownsRow base e size v n xs) : ∃ a c, v = .slice a n c := by
  rcases h.2 with ⟨rfl, rfl⟩ | ⟨g, cap, cur, rfl, _⟩
  · exact ⟨none, 0, rfl⟩
  · exact ⟨_, _, rfl⟩
theorem info39 : (Tryz.prog.info? 75).map (fun i => (i.zero, i.size, i.bytes)) = some (some (.agg #[.int .i64 0, .int .i64 0, .string ⟨#[]⟩]), 3, 32) := by kernel_rfl

/-- What Lex hands back: a row of its own with the tokens, and the code. -/
def LexIs (r : List Tk × Int) (w : World) (e : Ending) (w' : World) : Prop :=
  ∃ a c, e = .returned (.tuple #[.slice a r.1.length c, .int .i64 r.2]) ∧ w'.ownsRow w.heap.size 75 3 (.slice a r.1.length c) r.1.length (tvs r.1) ∧ Below w.heap.size w w'

theorem own_empty_at (w : World) (base N : Nat) (hN : N = w.heap.size) (hb : base ≤ w.heap.size) : (w.alloc (.cells #[] 75)).ownsRow base 75 3 (.slice (some ⟨N, 0, none⟩) 0 0) 0 [] := by
  subst hN; exact World.ownsRow_made w #[] 0 hb (Nat.zero_le _) rfl
theorem own_empty (w : World) (base : Nat) (hb : base ≤ w.heap.size) : (w.alloc (.cells #[] 75)).ownsRow base 75 3 (.slice (some ⟨w.heap.size, 0, none⟩) 0 0) 0 [] :=
  World.ownsRow_made w #[] 0 hb (Nat.zero_le _) rfl

set_option maxHeartbeats 4000000 in
theorem spec_lex (s : ByteArray) (w : World) (hs : s.size ≤ 65536) :
    Calls Tryz.prog 18 #[.string s] w (LexIs (lexR s 0 []) w) := by
  go_enter Tryz.func18, Tryz.ntmps18
  go_wp2_with fail
  go_loopw [4, 5] (fun v i wr => ∃ (k : Nat) (acc : List Tk) (a : Option Addr) (c : Nat), k ≤ s.size ∧ i = .int .i64 k ∧ v = .slice a acc.length c ∧ acc.length ≤ 4000 ∧ Below w.heap.size w wr ∧ Hid (wr.ownsRow w.heap.size 75 3 (.slice a acc.length c) acc.length (tvs acc)) ∧ Hid (lexR s 0 [] = lexR s k acc)) (fun _ i _ => s.size - (intOf i).toNat)
  case atStart => exact ⟨0, [], _, _, by omega, rfl, rfl, by simp, (Below.refl _ _).alloc (Nat.le_refl _) _, own_empty w _ (Nat.le_refl _), rfl⟩
  case round =>
    rename_i wr
    obtain ⟨k, acc, a, c, hk, rfl, rfl, hacc, hb, HO, HL⟩ := hrel
    by_cases hlt : k < s.size
    · by_cases h35 : (s[k].toNat : Int) = 35
      · have h35' : ((s[k].toNat : Int) == 35) = true := by rw [h35]; rfl
        have HP : Hid (pb s k false = pb s k true) := by
          rw [Hid, pb_hash hlt (by rw [bt_lt hlt]; exact h35), pb_rem hlt, bt_lt hlt, h35]; rfl
        go_wp2_with fail
        clear h35'
        go_loop [5] (fun v => ∃ j : Nat, k ≤ j ∧ j ≤ s.size ∧ v = .int .i64 j ∧ Hid (pb s k false = pb s j true)) (fun v => s.size - (intOf v).toNat)
        case atStart => exact ⟨k, by omega, by omega, rfl, HP⟩
        case round =>
          obtain ⟨j, hkj, hj, rfl, HJ⟩ := hrel
          by_cases hjs : j < s.size
          · by_cases h10 : (s[j].toNat : Int) = 10
            · have h10' : ((s[j].toNat : Int) != 10) = false := by rw [h10]; rfl
              have hne : k < j := by
                rcases Nat.lt_or_ge k j with h | h
                · exact h
                · have e : j = k := by omega
                  subst e; omega
              have HQ : pb s k false = pb s j false := by
                rw [HJ.out, pb_rem hjs, pb_blank hjs (by rw [bt_lt hjs, h10]; decide) (by rw [bt_lt hjs, h10]; decide), bt_lt hjs, h10]; rfl
              have HF : Hid (lexR s 0 [] = lexR s j acc) := by rw [Hid, HL.out, lexR_skip hk hj HQ]
              clear HQ h10
              go_wp2_with fail
              exact ⟨⟨j, acc, a, c, hj, rfl, rfl, hacc, hb, HO, HF⟩, by simp [intOf]; omega⟩
            · have h10' : ((s[j].toNat : Int) != 10) = true := by rw [bne_iff_ne]; exact h10
              have HF : Hid (pb s k false = pb s (j + 1) true) := by
                rw [Hid, HJ.out, pb_rem hjs, bt_lt hjs]; congr 1; simpa using h10
              clear h10
              go_wp2_with fail
              go_round
              case rel => exact ⟨j + 1, by omega, by omega, by go_num, HF⟩
              case measure => simp [intOf]; omega
          · have HQ : pb s k false = pb s j false := by rw [HJ.out, pb_end hjs, pb_end hjs]
            have HF : Hid (lexR s 0 [] = lexR s j acc) := by rw [Hid, HL.out, lexR_skip hk hj HQ]
            clear HQ
            go_wp2_with fail
            exact ⟨⟨j, acc, a, c, hj, rfl, rfl, hacc, hb, HO, HF⟩, by simp [intOf]; omega⟩
      · have h35' : ((s[k].toNat : Int) == 35) = false := by rw [beq_eq_false_iff_ne]; exact h35
        cases hbl : blB (s[k].toNat : Int)
        · have HP : pb s k false = k := pb_tok hlt (by rw [bt_lt hlt]; exact h35) (by rw [bt_lt hlt]; exact hbl)
          have HPK : Hid (pb s k false = k) := HP
          clear HP h35
          go_wp2_with fail
          refine (space_any _ _).mono ?_
          rintro e w1 ⟨rfl, rfl⟩
          go_wp2_with fail
          refine (next_any s k _ hs hlt).mono ?_
          rintro e w2 ⟨x, q, b, rfl, hy, hn, hb2⟩
          have q2 := hb.trans (hb2.mono hb.size)
          have HO2 := own_below HO.out hb2
          cases b
          · have HR : Hid (lexR s 0 [] = ([], 3)) := by rw [Hid, HL.out, lexR_none hk acc (by rw [HPK.out]; exact hlt) (by rw [HPK.out]; exact hn rfl)]
            clear hy hn HO2
            go_wp2_with fail
            go_ret2
            rw [HR.out]
            refine ⟨_, _, rfl, own_empty_at (w2.alloc (.cells #[.int .i64 x.k, .int .i64 x.n, .string x.t] 75)) _ (w2.heap.size + 1) (by simp) ?_, (q2.alloc q2.size _).alloc ?_ _⟩
            · have := q2.size; simp; omega
            · have := q2.size; simp; omega
          · have ht := hy rfl
            have hq := tokAt_bounds hlt ht
            by_cases h4 : acc.length = 4000
            · have HR : Hid (lexR s 0 [] = ([], 6)) := by rw [Hid, HL.out, lexR_many hk acc (by rw [HPK.out]; exact hlt) (by rw [HPK.out]; exact ht) h4]
              have h4' : ((acc.length : Int) == 4000) = true := by rw [h4]; rfl
              clear hy hn HO2 ht h4
              go_wp2_with fail
              go_ret2
              rw [HR.out]
              refine ⟨_, _, rfl, own_empty_at (w2.alloc (.cells #[.int .i64 x.k, .int .i64 x.n, .string x.t] 75)) _ (w2.heap.size + 1) (by simp) ?_, (q2.alloc q2.size _).alloc ?_ _⟩
              · have := q2.size; simp; omega
              · have := q2.size; simp; omega
            · have HR : Hid (lexR s 0 [] = lexR s q (acc ++ [x])) := by rw [Hid, HL.out, lexR_some hk acc (by rw [HPK.out]; exact hlt) (by rw [HPK.out]; exact ht) h4]
              have h4' : ((acc.length : Int) == 4000) = false := by rw [beq_eq_false_iff_ne]; omega
              clear hy hn ht
              obtain ⟨i39, hi39, hz39, hs39, hy39⟩ := info_parts info39
              have HO4 : Hid (((w2.alloc (.cells #[.int .i64 x.k, .int .i64 x.n, .string x.t] 75)).alloc (.cells #[.int .i64 x.k, .int .i64 x.n, .string x.t] 75)).ownsRow w.heap.size 75 3 (.slice a acc.length c) acc.length (tvs acc)) := (HO2.alloc _).alloc _
              have HX : Hid _ := tvs_snoc acc x
              have hz2 := q2.size
              clear HO2
              go_wp2_with (at_builtin; refine wpList_append_own _ rfl _ _ 30 rfl w.heap.size 75 i39 _ 3 32 Tryz.underlying30 hi39 hz39 hs39 hy39 rfl (by decide) _ acc.length _ rfl HO4.out ⟨w2.heap.size + 1, 0, none⟩ 1 1 [.int .i64 x.k, .int .i64 x.n, .string x.t] rfl rfl ?c1 ?c2 ?c3 ?c4 ?c5 ?_)
              case c1 =>
                intro j u hu
                match j, hu with
                | 0, hu => simp at hu; subst hu; simp [Addr.add]
                | 1, hu => simp at hu; subst hu; simp [Addr.add]
                | 2, hu => simp at hu; subst hu; simp [Addr.add]
                | j + 3, hu => simp at hu
              case c2 => intro u hu; simp at hu; rcases hu with rfl | rfl | rfl <;> rfl
              case c3 => unfold maxLen; omega
              case c4 => omega
              case c5 => simp; omega
              intro v' w3 hown hgrow _
              have q3 : Below w.heap.size w w3 := ((q2.alloc q2.size _).alloc (by simp; omega) _).grown hgrow (by simp; omega) (fun g hg => (World.ownsRow.lt HO4.out g hg).1)
              rw [HX.out] at hown
              obtain ⟨a', c', rfl⟩ := own_shape hown
              have HW : Hid (w3.ownsRow w.heap.size 75 3 (.slice a' (acc ++ [x]).length c') (acc ++ [x]).length (tvs (acc ++ [x]))) := by
                rw [show (acc ++ [x]).length = acc.length + 1 by simp]; exact hown
              clear hown HO4 h4' HO
              go_wp2_with fail
              exact ⟨⟨q, acc ++ [x], a', c', hq.2, rfl, by simp, by simp; omega, q3, HW, HR⟩, by simp [intOf]; omega⟩
        · have HP : pb s k false = pb s (k + 1) false := pb_blank hlt (by rw [bt_lt hlt]; exact h35) (by rw [bt_lt hlt]; exact hbl)
          have HF : Hid (lexR s 0 [] = lexR s (k + 1) acc) := by rw [Hid, HL.out, lexR_skip hk (by omega) HP]
          clear HP h35
          go_wp2_with fail
          refine (space_any _ _).mono ?_
          rintro e w1 ⟨rfl, rfl⟩
          go_wp2_with fail
          exact ⟨⟨k + 1, acc, a, c, by omega, by go_num, rfl, hacc, hb, HO, HF⟩, by simp [intOf]; omega⟩
    · have HF : Hid (lexR s 0 [] = (acc, 0)) := by
        rw [Hid, HL.out, lexR_eq hk, if_neg]
        have := (pb_bounds hk false).1
        omega
      go_wp2_with fail
      go_ret2
      rw [HF.out]
      exact ⟨a, c, rfl, HO.out, hb⟩

end Go.Proofs.YtnfoinmccigdfaaGreatDoor
