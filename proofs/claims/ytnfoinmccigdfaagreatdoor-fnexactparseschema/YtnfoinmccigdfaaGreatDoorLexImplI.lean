/- The program's reader: all tokens of a text. -/
import Derived.Test.YtnfoinmccigdfaaGreatDoorLexImplH
namespace Go.Proofs.YtnfoinmccigdfaaGreatDoor
open Go.ChangeShapes Go.WideShapes Go.ChangeAt Go.RowKit
set_option linter.unusedVariables false

def ToksIs (s : ByteArray) (L : Nat) (w : World) (e : Ending) (w' : World) : Prop :=
  (∃ (l : List Tk) (a : Option Addr) (c : Nat), lexR s 0 [] = (l, 0) ∧ e = .returned (.slice a l.length c) ∧ w'.ownsRow w.heap.size 75 3 (.slice a l.length c) l.length (tvs l) ∧ w.grownBy w' (some L)) ∨
  (∃ c : Int, lexR s 0 [] = ([], c) ∧ (c = 3 ∨ c = 6) ∧ e = .panicked [{ v := .iface 59 (.agg #[.int .i64 c]), recovered := false }] ∧ w.grownBy w' (some L))
def lexPos (w : World) (L : Nat) : Nat := match w.cell? ⟨L, 1, none⟩ with
  | some (.int _ n) => n.toNat
  | _ => 0
theorem lexPos_of {w : World} {L : Nat} {s : ByteArray} {i : Nat} (h : LexSt w L s i) : lexPos w L = i := by unfold lexPos; rw [h.c1]; simp
theorem own_grown {w w' : World} {base L : Nat} {e : TypeId} {size n : Nat} {v : Value} {xs : List Value} (h : w.ownsRow base e size v n xs) (hg : w.grownBy w' (some L)) (hL : L < base) : w'.ownsRow base e size v n xs :=
  h.kept hg (by
    cases hv : v.ownBlock with
    | none => exact .inl rfl
    | some g =>
      right
      have := (h.lt g hv).1
      intro e
      simp only [Option.some.injEq] at e
      omega)
theorem grown_append {a b c : World} {L : Nat} {r : Option Nat} (h : a.grownBy b (some L)) (k : b.grownBy c r) (hr : ∀ g, r = some g → a.heap.size ≤ g) : a.grownBy c (some L) :=
  ⟨k.os.trans h.os, k.tape.trans h.tape, k.output.trans h.output, Nat.le_trans h.size k.size, fun i hi hne => (k.block i (Nat.lt_of_lt_of_le hi h.size) (by
    intro e
    have := hr i e.symm
    omega)).trans (h.block i hi hne)⟩
theorem LexSt.append {b c : World} {L i : Nat} {s : ByteArray} {r : Option Nat} (h : LexSt b L s i) (k : b.grownBy c r) (hr : ∀ g, r = some g → L < g) : LexSt c L s i :=
  (k.block L h.lt (by intro e; have := hr L e.symm; omega)).trans h

set_option maxHeartbeats 4000000 in
theorem toks_any (s : ByteArray) (L : Nat) (w : World) (hs : s.size ≤ 65536) (h : LexSt w L s 0) (hv : Vars w) (hL3 : 2 < L) :
    Calls Tryz.prog 26 #[.pointer (some ⟨L, 0, none⟩)] w (ToksIs s L w) := by
  have hL := h.lt
  have HS : Hid (LexSt w L s 0) := h
  have HV : Hid (Vars w) := hv
  clear h hv
  go_enter Tryz.func26, Tryz.ntmps26
  go_wp2_with fail
  refine (pass_any s L 0 _ hs HS.out (Nat.zero_le _)).mono ?_
  rintro e w1 ⟨rfl, hst, hg1⟩
  have HST1 : Hid _ := hst
  clear hst
  go_wp2_with fail
  go_loopw [3] (fun v wr => ∃ (j : Nat) (acc : List Tk) (a : Option Addr) (c : Nat), j ≤ s.size ∧ v = .slice a acc.length c ∧ acc.length ≤ 4000 ∧ Hid (LexSt wr L s (pb s j false)) ∧ w.grownBy wr (some L) ∧ Hid (wr.ownsRow w.heap.size 75 3 (.slice a acc.length c) acc.length (tvs acc)) ∧ Hid (lexR s 0 [] = lexR s j acc)) (fun _ wr => s.size - lexPos wr L)
  case atStart => exact ⟨0, [], none, 0, Nat.zero_le _, rfl, by simp, HST1, hg1, World.ownsRow_nil _ _ _ _, rfl⟩
  case round =>
    rename_i wr
    obtain ⟨j, acc, a, c, hj, rfl, hacc, HST, hg, HO, HL⟩ := hrel
    have hbd := pb_bounds hj false
    have HM : Hid (lexPos wr L = pb s j false) := lexPos_of HST.out
    have hpp : Hid (tokAt s (pb s j false) = tokAt s (pb s j false)) := rfl
    have HN : Hid (pb s j false < s.size → tokAt s (pb s j false) = none → lexR s 0 [] = ([], 3)) := fun h1 h2 => by rw [HL.out, lexR_none hj acc h1 h2]
    have HMA : Hid (∀ x q, pb s j false < s.size → tokAt s (pb s j false) = some (x, q) → acc.length = 4000 → lexR s 0 [] = ([], 6)) := fun x q h1 h2 h3 => by rw [HL.out, lexR_many hj acc h1 h2 h3]
    have HSO : Hid (∀ x q, pb s j false < s.size → tokAt s (pb s j false) = some (x, q) → ¬ acc.length = 4000 → lexR s 0 [] = lexR s q (acc ++ [x])) := fun x q h1 h2 h3 => by rw [HL.out, lexR_some hj acc h1 h2 h3]
    have HDO : Hid (¬ pb s j false < s.size → lexR s 0 [] = (acc, 0)) := fun h1 => by rw [HL.out, lexR_done hj acc h1]
    clear HL hpp
    generalize pb s j false = p at *
    have c0 := HST.out.c0
    have c1 := HST.out.c1
    by_cases hp : p < s.size
    · have hp' : (p : Int) < s.size := by omega
      go_wp2_with fail
      go_quiet (fail)
      have HVr : Hid (Vars (wr.drewN nq)) := HV.out.grown (grown_trans hg (grown_drewN wr nq _)) hL3
      have hgq := grown_trans hg (grown_drewN wr nq (some L))
      have HOq : Hid ((wr.drewN nq).ownsRow w.heap.size 75 3 (.slice a acc.length c) acc.length (tvs acc)) := HO.out
      have HSq : Hid (LexSt (wr.drewN nq) L s p) := HST.out
      go_wp2_with fail
      refine (tok_any s L p _ hs HSq.out HVr.out hL3 hp).mono ?_
      rintro e w2 (⟨x, q, ht, rfl, hst2, hg2⟩ | ⟨hn, rfl, hg2⟩)
      · have hq := tokAt_bounds hp ht
        have HST2 : Hid (LexSt w2 L s q) := hst2
        have hgw := grown_trans hgq hg2
        have HO2 : Hid _ := own_grown HOq.out hg2 hL
        clear hst2 HOq HSq HVr c0 c1
        by_cases h4 : acc.length = 4000
        · have HR : Hid (lexR s 0 [] = ([], 6)) := HMA.out x q hp ht h4
          have h4' : ((acc.length : Int) == 4000) = true := by rw [h4]; rfl
          clear ht h4
          go_wp2_with fail
          exact ⟨rfl, .inr ⟨6, HR.out, .inr rfl, rfl, grown_alloc hgw _⟩⟩
        · have HR : Hid (lexR s 0 [] = lexR s q (acc ++ [x])) := HSO.out x q hp ht h4
          have h4' : ((acc.length : Int) == 4000) = false := by rw [beq_eq_false_iff_ne]; omega
          clear ht
          obtain ⟨i39, hi39, hz39, hs39, hy39⟩ := info_parts info39
          have HO4 : Hid (((w2.alloc (.cells #[.int .i64 x.k, .int .i64 x.n, .string x.t] 75)).alloc (.cells #[.int .i64 x.k, .int .i64 x.n, .string x.t] 75)).ownsRow w.heap.size 75 3 (.slice a acc.length c) acc.length (tvs acc)) := (World.ownsRow.alloc HO2.out _).alloc _
          have HX : Hid _ := tvs_snoc acc x
          have hz2 := hgw.size
          clear HO2
          go_wp2_with (at_builtin; refine wpList_append_own _ rfl _ _ 30 rfl w.heap.size 75 i39 _ 3 32 Tryz.underlying30 hi39 hz39 hs39 hy39 rfl (by decide) _ acc.length _ rfl HO4.out ⟨w2.heap.size + 1, 0, none⟩ 1 1 [.int .i64 x.k, .int .i64 x.n, .string x.t] rfl rfl ?c1 ?c2 ?c3 ?c4 ?c5 ?_)
          case c1 =>
            intro j u hu
            match j, hu with
            | 0, hu => simp at hu; subst hu; simp [Addr.add]
            | 1, hu => simp at hu; subst hu; simp [Addr.add]
            | 2, hu => simp at hu; subst hu; simp [Addr.add]
            | j + 3, hu => simp at hu
          case c2 => intro u hu; simp at hu; rcases hu with rfl | rfl | rfl <;> rfl
          case c3 => unfold maxLen; omega
          case c4 => omega
          case c5 => simp; omega
          intro v' w3 hown hgrow _
          have hbase : ∀ g, (Value.slice a acc.length c).ownBlock = some g → w.heap.size ≤ g := fun g hg => (World.ownsRow.lt HO4.out g hg).1
          have q3 : w.grownBy w3 (some L) := grown_append (grown_alloc (grown_alloc hgw _) _) hgrow hbase
          have HST3 : Hid (LexSt w3 L s q) := LexSt.append (LexSt.below HST2.out (((Below.refl _ _).alloc (Nat.le_refl _) _).alloc (by simp) _)) hgrow (fun g hg => by have := hbase g hg; omega)
          rw [HX.out] at hown
          obtain ⟨a', c', rfl⟩ := own_shape hown
          have HW : Hid (w3.ownsRow w.heap.size 75 3 (.slice a' (acc ++ [x]).length c') (acc ++ [x]).length (tvs (acc ++ [x]))) := by
            rw [show (acc ++ [x]).length = acc.length + 1 by simp]; exact hown
          clear hown HO4 h4' HO HST2
          go_wp2_with fail
          refine (pass_any s L q _ hs HST3.out hq.2).mono ?_
          rintro e w4 ⟨rfl, hst4, hg4⟩
          have HST4 : Hid _ := hst4
          have HW4 : Hid _ := own_grown HW.out hg4 hL
          have q4 := grown_trans q3 hg4
          have hpq := (pb_bounds hq.2 false).1
          have HM4 : Hid (lexPos w4 L = pb s q false) := lexPos_of hst4
          have HMM : Hid (s.size - lexPos w4 L < s.size - lexPos wr L) := by rw [Hid, HM4.out, HM.out]; omega
          clear hst4 HST3 HW
          go_wp2_with fail
          exact ⟨⟨q, acc ++ [x], a', c', hq.2, by simp, by simp; omega, HST4, q4, HW4, HR⟩, HMM.out⟩
      · have HR : Hid (lexR s 0 [] = ([], 3)) := HN.out hp hn
        go_wp2_with fail
        exact ⟨rfl, .inr ⟨3, HR.out, .inl rfl, rfl, grown_trans hgq hg2⟩⟩
    · have hp' : ¬ (p : Int) < s.size := by omega
      have HR : Hid (lexR s 0 [] = (acc, 0)) := HDO.out hp
      go_wp2_with fail
      go_quiet (fail)
      go_wp2_with fail
      go_ret
      exact .inl ⟨acc, a, c, HR.out, rfl, HO.out, grown_trans hg (grown_drewN wr nq (some L))⟩
end Go.Proofs.YtnfoinmccigdfaaGreatDoor
