/- Rows of structs in memory: what all kinds of them share. -/
import Derived.Test.YtlilfbcngncllaaGreatDoorLexImplH
import Derived.Defers
import Derived.Recover
import Derived.Test.YtlilfbcngncllaaGreatDoorNameOK
import Derived.Below
import Derived.Deep.Slices
import Derived.Deep.Strs
import Derived.Lib.SmallJoins
import Derived.Deep.QuietTactic
import Derived.BigQuiet
import Derived.Deep.RegionWith
namespace Go.Proofs.YtlilfbcngncllaaGreatDoor
open Go.ChangeShapes Go.WideShapes Go.ChangeAt Go.RowKit
set_option linter.unusedVariables false

def ToksIs (s : ByteArray) (L : Nat) (w : World) (e : Ending) (w' : World) : Prop :=
  (∃ (l : List Tk) (a : Option Addr) (c : Nat), lexR s 0 [] = (l, 0) ∧ e = .returned (.slice a l.length c) ∧ w'.ownsRow w.heap.size 66 3 (.slice a l.length c) l.length (tvs l) ∧ w.grownBy w' (some L)) ∨
  (∃ c : Int, lexR s 0 [] = ([], c) ∧ (c = 3 ∨ c = 6) ∧ e = .panicked [{ v := .iface 53 (.agg #[.int .i64 c]), recovered := false }] ∧ w.grownBy w' (some L))
def lexPos (w : World) (L : Nat) : Nat := match w.cell? ⟨L, 1, none⟩ with
  | some (.int _ n) => n.toNat
  | _ => 0
theorem lexPos_of {w : World} {L : Nat} {s : ByteArray} {i : Nat} (h : LexSt w L s i) : lexPos w L = i := by unfold lexPos; rw [h.c1]; simp
theorem own_grown {w w' : World} {base L : Nat} {e : TypeId} {size n : Nat} {v : Value} {xs : List Value} (h : w.ownsRow base e size v n xs) (hg : w.grownBy w' (some L)) (hL : L < base) : w'.ownsRow base e size v n xs :=
  h.kept hg (by
    cases hv : v.ownBlock with
    | none => exact .inl rfl
    | some g =>
      right
      have := (h.lt g hv).1
      intro e
      simp only [Option.some.injEq] at e
      omega)
theorem grown_append {a b c : World} {L : Nat} {r : Option Nat} (h : a.grownBy b (some L)) (k : b.grownBy c r) (hr : ∀ g, r = some g → a.heap.size ≤ g) : a.grownBy c (some L) :=
  ⟨k.os.trans h.os, k.tape.trans h.tape, k.output.trans h.output, Nat.le_trans h.size k.size, fun i hi hne => (k.block i (Nat.lt_of_lt_of_le hi h.size) (by
    intro e
    have := hr i e.symm
    omega)).trans (h.block i hi hne)⟩
theorem LexSt.append {b c : World} {L i : Nat} {s : ByteArray} {r : Option Nat} (h : LexSt b L s i) (k : b.grownBy c r) (hr : ∀ g, r = some g → L < g) : LexSt c L s i :=
  (k.block L h.lt (by intro e; have := hr L e.symm; omega)).trans h

set_option maxHeartbeats 4000000 in
theorem toks_any (s : ByteArray) (L : Nat) (w : World) (hs : s.size ≤ 65536) (h : LexSt w L s 0) (hv : Vars w) (hL3 : 2 < L) :
    Calls Tryz.prog 22 #[.pointer (some ⟨L, 0, none⟩)] w (ToksIs s L w) := by
  have hL := h.lt
  have HS : Hid (LexSt w L s 0) := h
  have HV : Hid (Vars w) := hv
  clear h hv
  go_enter Tryz.func22, Tryz.ntmps22
  go_wp2_with fail
  refine (pass_any s L 0 _ hs HS.out (Nat.zero_le _)).mono ?_
  rintro e w1 ⟨rfl, hst, hg1⟩
  have HST1 : Hid _ := hst
  clear hst
  go_wp2_with fail
  go_loopw [3] (fun v wr => ∃ (j : Nat) (acc : List Tk) (a : Option Addr) (c : Nat), j ≤ s.size ∧ v = .slice a acc.length c ∧ acc.length ≤ 4000 ∧ Hid (LexSt wr L s (pb s j false)) ∧ w.grownBy wr (some L) ∧ Hid (wr.ownsRow w.heap.size 66 3 (.slice a acc.length c) acc.length (tvs acc)) ∧ Hid (lexR s 0 [] = lexR s j acc)) (fun _ wr => s.size - lexPos wr L)
  case atStart => exact ⟨0, [], none, 0, Nat.zero_le _, rfl, by simp, HST1, hg1, World.ownsRow_nil _ _ _ _, rfl⟩
  case round =>
    rename_i wr
    obtain ⟨j, acc, a, c, hj, rfl, hacc, HST, hg, HO, HL⟩ := hrel
    have hbd := pb_bounds hj false
    have HM : Hid (lexPos wr L = pb s j false) := lexPos_of HST.out
    have hpp : Hid (tokAt s (pb s j false) = tokAt s (pb s j false)) := rfl
    have HN : Hid (pb s j false < s.size → tokAt s (pb s j false) = none → lexR s 0 [] = ([], 3)) := fun h1 h2 => by rw [HL.out, lexR_none hj acc h1 h2]
    have HMA : Hid (∀ x q, pb s j false < s.size → tokAt s (pb s j false) = some (x, q) → acc.length = 4000 → lexR s 0 [] = ([], 6)) := fun x q h1 h2 h3 => by rw [HL.out, lexR_many hj acc h1 h2 h3]
    have HSO : Hid (∀ x q, pb s j false < s.size → tokAt s (pb s j false) = some (x, q) → ¬ acc.length = 4000 → lexR s 0 [] = lexR s q (acc ++ [x])) := fun x q h1 h2 h3 => by rw [HL.out, lexR_some hj acc h1 h2 h3]
    have HDO : Hid (¬ pb s j false < s.size → lexR s 0 [] = (acc, 0)) := fun h1 => by rw [HL.out, lexR_done hj acc h1]
    clear HL hpp
    generalize pb s j false = p at *
    have c0 := HST.out.c0
    have c1 := HST.out.c1
    by_cases hp : p < s.size
    · have hp' : (p : Int) < s.size := by omega
      go_wp2_with fail
      go_quiet (fail)
      have HVr : Hid (Vars (wr.drewN nq)) := HV.out.grown (grown_trans hg (grown_drewN wr nq _)) hL3
      have hgq := grown_trans hg (grown_drewN wr nq (some L))
      have HOq : Hid ((wr.drewN nq).ownsRow w.heap.size 66 3 (.slice a acc.length c) acc.length (tvs acc)) := HO.out
      have HSq : Hid (LexSt (wr.drewN nq) L s p) := HST.out
      go_wp2_with fail
      refine (tok_any s L p _ hs HSq.out HVr.out hL3 hp).mono ?_
      rintro e w2 (⟨x, q, ht, rfl, hst2, hg2⟩ | ⟨hn, rfl, hg2⟩)
      · have hq := tokAt_bounds hp ht
        have HST2 : Hid (LexSt w2 L s q) := hst2
        have hgw := grown_trans hgq hg2
        have HO2 : Hid _ := own_grown HOq.out hg2 hL
        clear hst2 HOq HSq HVr c0 c1
        by_cases h4 : acc.length = 4000
        · have HR : Hid (lexR s 0 [] = ([], 6)) := HMA.out x q hp ht h4
          have h4' : ((acc.length : Int) == 4000) = true := by rw [h4]; rfl
          clear ht h4
          go_wp2_with fail
          exact ⟨rfl, .inr ⟨6, HR.out, .inr rfl, rfl, grown_alloc hgw _⟩⟩
        · have HR : Hid (lexR s 0 [] = lexR s q (acc ++ [x])) := HSO.out x q hp ht h4
          have h4' : ((acc.length : Int) == 4000) = false := by rw [beq_eq_false_iff_ne]; omega
          clear ht
          obtain ⟨i39, hi39, hz39, hs39, hy39⟩ := info_parts info39
          have HO4 : Hid (((w2.alloc (.cells #[.int .i64 x.k, .int .i64 x.n, .string x.t] 66)).alloc (.cells #[.int .i64 x.k, .int .i64 x.n, .string x.t] 66)).ownsRow w.heap.size 66 3 (.slice a acc.length c) acc.length (tvs acc)) := (World.ownsRow.alloc HO2.out _).alloc _
          have HX : Hid _ := tvs_snoc acc x
          have hz2 := hgw.size
          clear HO2
          go_wp2_with (at_builtin; refine wpList_append_own _ rfl _ _ 30 rfl w.heap.size 66 i39 _ 3 32 Tryz.underlying30 hi39 hz39 hs39 hy39 rfl (by decide) _ acc.length _ rfl HO4.out ⟨w2.heap.size + 1, 0, none⟩ 1 1 [.int .i64 x.k, .int .i64 x.n, .string x.t] rfl rfl ?c1 ?c2 ?c3 ?c4 ?c5 ?_)
          case c1 =>
            intro j u hu
            match j, hu with
            | 0, hu => simp at hu; subst hu; simp [Addr.add]
            | 1, hu => simp at hu; subst hu; simp [Addr.add]
            | 2, hu => simp at hu; subst hu; simp [Addr.add]
            | j + 3, hu => simp at hu
          case c2 => intro u hu; simp at hu; rcases hu with rfl | rfl | rfl <;> rfl
          case c3 => unfold maxLen; omega
          case c4 => omega
          case c5 => simp; omega
          intro v' w3 hown hgrow _
          have hbase : ∀ g, (Value.slice a acc.length c).ownBlock = some g → w.heap.size ≤ g := fun g hg => (World.ownsRow.lt HO4.out g hg).1
          have q3 : w.grownBy w3 (some L) := grown_append (grown_alloc (grown_alloc hgw _) _) hgrow hbase
          have HST3 : Hid (LexSt w3 L s q) := LexSt.append (LexSt.below HST2.out (((Below.refl _ _).alloc (Nat.le_refl _) _).alloc (by simp) _)) hgrow (fun g hg => by have := hbase g hg; omega)
          rw [HX.out] at hown
          obtain ⟨a', c', rfl⟩ := own_shape hown
          have HW : Hid (w3.ownsRow w.heap.size 66 3 (.slice a' (acc ++ [x]).length c') (acc ++ [x]).length (tvs (acc ++ [x]))) := by
            rw [show (acc ++ [x]).length = acc.length + 1 by simp]; exact hown
          clear hown HO4 h4' HO HST2
          go_wp2_with fail
          refine (pass_any s L q _ hs HST3.out hq.2).mono ?_
          rintro e w4 ⟨rfl, hst4, hg4⟩
          have HST4 : Hid _ := hst4
          have HW4 : Hid _ := own_grown HW.out hg4 hL
          have q4 := grown_trans q3 hg4
          have hpq := (pb_bounds hq.2 false).1
          have HM4 : Hid (lexPos w4 L = pb s q false) := lexPos_of hst4
          have HMM : Hid (s.size - lexPos w4 L < s.size - lexPos wr L) := by rw [Hid, HM4.out, HM.out]; omega
          clear hst4 HST3 HW
          go_wp2_with fail
          exact ⟨⟨q, acc ++ [x], a', c', hq.2, by simp, by simp; omega, HST4, q4, HW4, HR⟩, HMM.out⟩
      · have HR : Hid (lexR s 0 [] = ([], 3)) := HN.out hp hn
        go_wp2_with fail
        exact ⟨rfl, .inr ⟨3, HR.out, .inl rfl, rfl, grown_trans hgq hg2⟩⟩
    · have hp' : ¬ (p : Int) < s.size := by omega
      have HR : Hid (lexR s 0 [] = (acc, 0)) := HDO.out hp
      go_wp2_with fail
      go_quiet (fail)
      go_wp2_with fail
      go_ret
      exact .inl ⟨acc, a, c, HR.out, rfl, HO.out, grown_trans hg (grown_drewN wr nq (some L))⟩
end Go.Proofs.YtlilfbcngncllaaGreatDoor
namespace Go.Proofs.YtlilfbcngncllaaGreatDoor
open Go.ChangeShapes Go.WideShapes Go.ChangeAt Go.RowKit
set_option linter.unusedVariables false

set_option maxHeartbeats 1000000 in
theorem fault_any (c : Int) (w : World) :
    Calls Tryz.prog 12 #[.iface 53 (.agg #[.int .i64 c])] w fun e w' => e = .returned (.int .i64 c) ∧ Below w.heap.size w w' := by
  have hta : ∀ W : World, (Instr.typeAssert (.iface 53 (.agg #[.int .i64 c])) 20 53 true).run Tryz.prog W = .ok (.tuple #[.agg #[.int .i64 c], .bool true]) W := by
    intro W
    kernel_rfl
  go_enter Tryz.func12, Tryz.ntmps12
  go_wp2_with fail
  go_ret
  exact ⟨rfl, by repeat (first | exact Below.refl _ _ | refine Below.setCell ?_ (by simp) _ | refine Below.alloc ?_ (by simp) _)⟩

set_option maxHeartbeats 1000000 in
theorem catch_panicking (A B : Nat) (c x : Int) (a : Option Addr) (n m : Nat) (older : List PanicEntry) (w : World) (hA : w.heap[A]? = some (.cells #[.slice a n m] 30 (0, 0))) (hB : w.heap[B]? = some (.cells #[.int .i64 x] 3 (0, 0))) (hAB : A ≠ B) :
    CallsD Tryz.prog 21 #[.pointer (some ⟨A, 0, none⟩), .pointer (some ⟨B, 0, none⟩)] (.panicking ({ v := .iface 53 (.agg #[.int .i64 c]), recovered := false } :: older)) w fun e u' w' =>
      e = .returned (.tuple #[]) ∧ u' = .panicking ({ v := .iface 53 (.agg #[.int .i64 c]), recovered := true } :: older) ∧ ∃ w1, Below w.heap.size w w1 ∧ w' = (w1.setCell ⟨A, 0, none⟩ (.slice none 0 0)).setCell ⟨B, 0, none⟩ (.int .i64 c) := by
  refine callsD_of_wpS Tryz.func21 rfl fun c₀ cs hu => ?_
  apply wpS_seq
  apply wpS_region
  simp [wpOpsS, go_sem, recoverD, hu, Tryz.ntmps21, Exit.thenS]
  refine wpS_of_wp ?_
  have dA := row_cell hA 0
  have dB := row_cell hB 0
  have fA := row_frozen hA 0
  have fB := row_frozen hB 0
  simp at dA dB
  have HA : Hid _ := hA
  have HB : Hid _ := hB
  clear hA hB dA dB fA fB
  go_wp2_with fail
  refine (fault_any c _).mono ?_
  rintro e w1 ⟨rfl, hb1⟩
  have hA1 := (hb1.block A (Array.getElem?_eq_some_iff.1 HA.out).1).trans HA.out
  have hB1 := (hb1.block B (Array.getElem?_eq_some_iff.1 HB.out).1).trans HB.out
  have dA := row_cell hA1 0
  have dB := row_cell hB1 0
  have fA := row_frozen hA1 0
  have fB := row_frozen hB1 0
  simp at dA dB
  clear hA1 hB1
  go_wp2_with fail
  simp [bodyPostS, results, Tryz.results21]
  exact ⟨w1, hb1, rfl⟩

theorem catch_idle (A B : Nat) (w : World) :
    CallsD Tryz.prog 21 #[.pointer (some ⟨A, 0, none⟩), .pointer (some ⟨B, 0, none⟩)] .returning w fun e u' w' => e = .returned (.tuple #[]) ∧ u' = .returning ∧ w' = w := by
  refine callsD_of_wpS Tryz.func21 rfl fun c₀ cs hu => ?_
  apply wpS_seq
  apply wpS_region
  simp [wpOpsS, go_sem, recoverD, hu, Tryz.ntmps21, Exit.thenS]
  refine wpS_of_wp ?_
  go_wp2_with fail
  cases c₀
  simp_all [bodyPostS, results, Tryz.results21]

theorem own_base {w : World} {b b' : Nat} {e : TypeId} {size n : Nat} {v : Value} {xs : List Value} (h : w.ownsRow b e size v n xs) (hb : b' ≤ b) : w.ownsRow b' e size v n xs := by
  refine ⟨h.1, ?_⟩
  rcases h.2 with h | ⟨g, cap, cur, h1, h2, h3⟩
  · exact .inl h
  · exact .inr ⟨g, cap, cur, h1, Nat.le_trans hb h2, h3⟩
set_option maxHeartbeats 2000000 in
theorem impl_Lex (s : ByteArray) (w : World) (hs : s.size ≤ maxLen) (hv : Vars w) : Calls Tryz.prog 10 #[.string s] w (LexIs (lexB s) w) := by
  unfold maxLen at hs
  have hmf : ∀ (fn : Fn) (first cap : Array Value) (w : World), (Instr.makeFunc fn first cap).run Tryz.prog w = .ok (.func fn first cap) w := fun _ _ _ _ => rfl
  have HV : Hid (Vars w) := hv
  clear hv
  by_cases h : 65536 < s.size
  · have HB : Hid (lexB s = ([], 2)) := by unfold Hid lexB; rw [if_pos h]
    go_enter_defers Tryz.func10, Tryz.ntmps10
    go_wp2_with fail
    simp [bodyPostD, Leaves, results, Tryz.results10, go_sem]
    rw [HB.out]
    exact ⟨none, 0, rfl, World.ownsRow_nil _ _ _ _, ((Below.refl _ _).alloc (Nat.le_refl _) _).alloc (by simp) _⟩
  · have HB : Hid (lexB s = lexR s 0 []) := by unfold Hid lexB; rw [if_neg h]
    go_enter_defers Tryz.func10, Tryz.ntmps10
    go_wp2_with fail
    have hrA : (((w.alloc (.cells #[.slice none 0 0] 30)).alloc (.cells #[.int .i64 0] 3)).alloc (.cells #[.string s, .int .i64 0] 50)).heap[w.heap.size]? = some (.cells #[.slice none 0 0] 30 (0, 0)) :=
      (Below.heap_alloc _ _ _ (by simp; omega)).trans ((Below.heap_alloc _ _ _ (by simp)).trans (heap_alloc_new _ _))
    have hrB : (((w.alloc (.cells #[.slice none 0 0] 30)).alloc (.cells #[.int .i64 0] 3)).alloc (.cells #[.string s, .int .i64 0] 50)).heap[w.heap.size + 1]? = some (.cells #[.int .i64 0] 3 (0, 0)) := by
      refine (Below.heap_alloc _ _ _ (by simp)).trans ?_
      have := heap_alloc_new (w.alloc (.cells #[.slice none 0 0] 30)) (.cells #[.int .i64 0] 3)
      simpa using this
    have hrL : LexSt (((w.alloc (.cells #[.slice none 0 0] 30)).alloc (.cells #[.int .i64 0] 3)).alloc (.cells #[.string s, .int .i64 0] 50)) (w.heap.size + 1 + 1) s 0 := by
      have := heap_alloc_new ((w.alloc (.cells #[.slice none 0 0] 30)).alloc (.cells #[.int .i64 0] 3)) (.cells #[.string s, .int .i64 0] 50)
      simpa [LexSt] using this
    have qb : Below w.heap.size w (((w.alloc (.cells #[.slice none 0 0] 30)).alloc (.cells #[.int .i64 0] 3)).alloc (.cells #[.string s, .int .i64 0] 50)) := (((Below.refl _ _).alloc (Nat.le_refl _) _).alloc (by simp) _).alloc (by simp; omega) _
    have hsz : (((w.alloc (.cells #[.slice none 0 0] 30)).alloc (.cells #[.int .i64 0] 3)).alloc (.cells #[.string s, .int .i64 0] 50)).heap.size = w.heap.size + 3 := by simp
    have HVW := HV.out.below qb HV.out.lt
    generalize ((w.alloc (.cells #[.slice none 0 0] 30)).alloc (.cells #[.int .i64 0] 3)).alloc (.cells #[.string s, .int .i64 0] 50) = W at *
    have hl3 := HV.out.lt
    refine (toks_any s (w.heap.size + 1 + 1) W (by omega) hrL HVW (by omega)).mono ?_
    rintro e w1 (⟨l, a, c, hl, rfl, ho, hg⟩ | ⟨c, hl, hc, rfl, hg⟩)
    · have hA1 := LexSt.grownTo hrA hg (by omega)
      have hB1 := LexSt.grownTo hrB hg (by omega)
      have HA : Hid _ := hA1
      have HBB : Hid _ := hB1
      have HO : Hid (w1.ownsRow W.heap.size 66 3 (.slice a l.length c) l.length (tvs l)) := ho
      have dA := row_cell hA1 0
      have dB := row_cell hB1 0
      have fA := row_frozen hA1 0
      have fB := row_frozen hB1 0
      simp at dA dB
      clear hA1 hB1 ho hrA hrB hrL
      have HL : Hid (lexB s = (l, 0)) := by rw [Hid, HB.out, hl]
      clear hl
      go_wp2_with fail
      refine leaves_cons (f := 21) (args := #[.pointer (some ⟨w.heap.size, 0, none⟩), .pointer (some ⟨w.heap.size + 1, 0, none⟩)]) (by simp) (by simp [go_sem]) ?_
      refine (catch_idle _ _ _).mono ?_
      rintro e u' w'' ⟨rfl, rfl, rfl⟩
      have hA2 := row_other (row_set HA.out 0 (.slice a l.length c)) (M := w.heap.size + 1) (j := 0) (by omega) (.int .i64 0)
      have hB2 := row_set (row_other HBB.out (M := w.heap.size) (j := 0) (by omega) (.slice a l.length c)) 0 (.int .i64 0)
      have HO2 := ownsRow_setCell_below (ownsRow_setCell_below HO.out (a := ⟨w.heap.size, 0, none⟩) (by show w.heap.size < W.heap.size; omega) (.slice a l.length c)) (a := ⟨w.heap.size + 1, 0, none⟩) (by show w.heap.size + 1 < W.heap.size; omega) (.int .i64 0)
      have q1 : Below w.heap.size w w1 := qb.grown hg (by omega) (fun k e => by simp only [Option.some.injEq] at e; omega)
      have q2 := (q1.setCell (p := ⟨w.heap.size, 0, none⟩) (Nat.le_refl _) (.slice a l.length c)).setCell (p := ⟨w.heap.size + 1, 0, none⟩) (by show w.heap.size ≤ w.heap.size + 1; omega) (.int .i64 0)
      clear dA dB fA fB HA HBB HO q1 hg
      generalize (w1.setCell ⟨w.heap.size, 0, none⟩ (.slice a l.length c)).setCell ⟨w.heap.size + 1, 0, none⟩ (.int .i64 0) = w2 at *
      have eA := row_cell hA2 0
      have eB := row_cell hB2 0
      simp at eA eB
      simp [Leaves, settle, results, Tryz.results10, go_sem, eA, eB]
      rw [HL.out]
      exact ⟨a, c, rfl, own_base HO2 (by omega), q2⟩
    · have hA1 := LexSt.grownTo hrA hg (by omega)
      have hB1 := LexSt.grownTo hrB hg (by omega)
      have HL : Hid (lexB s = ([], c)) := by rw [Hid, HB.out, hl]
      have q1 : Below w.heap.size w w1 := qb.grown hg (by omega) (fun k e => by simp only [Option.some.injEq] at e; omega)
      clear hl hrA hrB hrL hg
      go_wp2_with fail
      refine leaves_cons (f := 21) (args := #[.pointer (some ⟨w.heap.size, 0, none⟩), .pointer (some ⟨w.heap.size + 1, 0, none⟩)]) (by simp) (by simp [go_sem]) ?_
      refine (catch_panicking w.heap.size (w.heap.size + 1) c 0 none 0 0 [] _ hA1 hB1 (by omega)).mono ?_
      rintro e u' w'' ⟨rfl, rfl, w2, hb2, rfl⟩
      have hA2 := (hb2.block _ (Array.getElem?_eq_some_iff.1 hA1).1).trans hA1
      have hB2 := (hb2.block _ (Array.getElem?_eq_some_iff.1 hB1).1).trans hB1
      have hA3 := row_other (row_set hA2 0 (.slice none 0 0)) (M := w.heap.size + 1) (j := 0) (by omega) (.int .i64 c)
      have hB3 := row_set (row_other hB2 (M := w.heap.size) (j := 0) (by omega) (.slice none 0 0)) 0 (.int .i64 c)
      have q3 := ((q1.trans (hb2.mono q1.size)).setCell (p := ⟨w.heap.size, 0, none⟩) (Nat.le_refl _) (.slice none 0 0)).setCell (p := ⟨w.heap.size + 1, 0, none⟩) (by show w.heap.size ≤ w.heap.size + 1; omega) (.int .i64 c)
      clear hA1 hB1 hA2 hB2 hb2 q1
      generalize (w2.setCell ⟨w.heap.size, 0, none⟩ (.slice none 0 0)).setCell ⟨w.heap.size + 1, 0, none⟩ (.int .i64 c) = w3 at *
      have eA := row_cell hA3 0
      have eB := row_cell hB3 0
      simp at eA eB
      simp [Leaves, settle, results, Tryz.results10, go_sem, eA, eB]
      rw [HL.out]
      exact ⟨none, 0, rfl, World.ownsRow_nil _ _ _ _, q3⟩
end Go.Proofs.YtlilfbcngncllaaGreatDoor
namespace Go.Proofs.YtlilfbcngncllaaGreatDoor.G
open Go.ChangeShapes Go.WideShapes Go.ChangeAt Go.RowKit
set_option linter.unusedVariables false

def rdOf (w : World) (b : Nat) : Nat → Option Value := fun j => w.cell? ⟨b, j, none⟩
/-- A row of elements of some cells each, in a block from lo up and below hi; any place where there is none. -/
def Row {α : Type} (at_ : (Nat → Option Value) → Nat → α → Prop) (z : Nat) (lo hi : Nat) (w : World) (a : Option Addr) (l : List α) : Prop :=
  l = [] ∨ ∃ b o, a = some ⟨b, o, none⟩ ∧ lo ≤ b ∧ b < hi ∧ ∀ i x, l[i]? = some x → at_ (rdOf w b) (o + i * z) x
/-- Two worlds agree on the blocks from lo up and below hi. -/
def Agree (lo hi : Nat) (w w' : World) : Prop := ∀ g, lo ≤ g → g < hi → w'.heap[g]? = w.heap[g]?
theorem Agree.rd {lo hi : Nat} {w w' : World} (h : Agree lo hi w w') {b : Nat} (h1 : lo ≤ b) (h2 : b < hi) : rdOf w' b = rdOf w b := by
  funext j; simp only [rdOf, World.cell?, h b h1 h2]
theorem agree {B : Nat} {w w' : World} (h : Below B w w') {lo hi : Nat} (hh : hi ≤ B) : Agree lo hi w w' := fun g _ h2 => h.block g (by omega)
theorem Row.at_ {α : Type} {at_ : (Nat → Option Value) → Nat → α → Prop} {z lo hi : Nat} {w : World} {a : Option Addr} {l : List α} (h : Row at_ z lo hi w a l) (k : Nat) (hk : k < l.length) :
    ∃ b o, a = some ⟨b, o, none⟩ ∧ lo ≤ b ∧ b < hi ∧ at_ (rdOf w b) (o + k * z) l[k] := by
  rcases h with rfl | ⟨b, o, rfl, h1, h2, h3⟩
  · simp at hk
  · exact ⟨b, o, rfl, h1, h2, h3 k l[k] (List.getElem?_eq_getElem hk)⟩
theorem Row.of {α : Type} {at1 at2 : (Nat → Option Value) → Nat → α → Prop} {z lo hi : Nat} {w w' : World} {a : Option Addr} {l : List α} (h : Row at1 z lo hi w a l) (hk : Agree lo hi w w') (hi' : ∀ rd o x, at1 rd o x → at2 rd o x) : Row at2 z lo hi w' a l := by
  rcases h with h | ⟨b, o, rfl, h1, h2, h3⟩
  · exact .inl h
  · exact .inr ⟨b, o, rfl, h1, h2, fun i x hx => by rw [hk.rd h1 h2]; exact hi' _ _ _ (h3 i x hx)⟩
theorem Row.out {α : Type} {at1 at2 : (Nat → Option Value) → Nat → α → Prop} {z lo hi lo' hi' : Nat} {w : World} {a : Option Addr} {l : List α} (h : Row at1 z lo hi w a l) (e1 : lo' ≤ lo) (e2 : hi ≤ hi') (hx : ∀ rd o x, at1 rd o x → at2 rd o x) : Row at2 z lo' hi' w a l := by
  rcases h with h | ⟨b, o, rfl, h1, h2, h3⟩
  · exact .inl h
  · exact .inr ⟨b, o, rfl, by omega, by omega, fun i x h => hx _ _ _ (h3 i x h)⟩

theorem cell_lt {W : World} {a : Addr} {v : Value} (h : W.cell? a = some v) : a.block < W.heap.size := by
  refine Nat.lt_of_not_le fun hle => ?_
  simp [World.cell?, Array.getElem?_eq_none hle] at h
theorem list_of {α : Type} {len : Nat} {p : Nat → α → Prop} (h : ∀ i, i < len → ∃ x, p i x) : ∃ l : List α, l.length = len ∧ ∀ i x, l[i]? = some x → p i x := by
  induction len with
  | zero => exact ⟨[], rfl, by simp⟩
  | succ n ih =>
    obtain ⟨l, hl, hp⟩ := ih fun i hi => h i (by omega)
    obtain ⟨y, hy⟩ := h n (by omega)
    refine ⟨l ++ [y], by simp [hl], fun i x hx => ?_⟩
    by_cases hi : i < n
    · rw [List.getElem?_append_left (by omega)] at hx; exact hp i x hx
    · rw [List.getElem?_append_right (by omega)] at hx
      have : i - l.length < 1 := by have := (List.getElem?_eq_some_iff.1 hx).1; simpa using this
      obtain rfl : i = n := by omega
      rw [hl, Nat.sub_self] at hx
      simp at hx; subst hx; exact hy
section
variable {H : Type} {enc : TypeId × Value → H} {W : World}
/-- A slice's cell opened: its elements' cells, each with its own reading. -/
theorem sl_open {t e : TypeId} {z : Nat} {fuel : Nat} {cs : List Value} {x : DataW H × List MemPlace} (ht : Tryz.prog.underlying t = some (.slice e)) (hz : Tryz.prog.cellsOf e = z) (hz0 : 0 < z) (h : DataW.trod enc Tryz.prog W 0 (fun _ => true) true fuel t cs = some x) :
    ∃ a len cap, cs = [.slice a len cap] ∧ len ≤ maxLen ∧ (len = 0 ∨ ∃ n b o, fuel = n + 1 ∧ a = some ⟨b, o, none⟩ ∧ b < W.heap.size ∧
      ∀ i, i < len → ∃ cs' y, cs'.length = z ∧ (∀ j, j < z → rdOf W b (o + i * z + j) = cs'[j]?) ∧ DataW.trod enc Tryz.prog W 0 (fun _ => true) true n e cs' = some y) := by
  rcases DataW.trod_slice ht h with ⟨rfl, _⟩ | ⟨a, len, cap, elems, rest, n, rfl, rfl, _, hb, hl, hm, hlen, hel, _, _⟩
  · exact ⟨none, 0, 0, rfl, Nat.zero_le _, .inl rfl⟩
  · refine ⟨some a, len, cap, rfl, by omega, ?_⟩
    by_cases h0 : len = 0
    · exact .inl h0
    rw [hz] at hel
    have key : ∀ i, i < len → ∃ cs' y, cs'.length = z ∧ (∀ j, j < z → W.cell? ((a.add (i * z)).add j) = cs'[j]?) ∧ DataW.trod enc Tryz.prog W 0 (fun _ => true) true n e cs' = some y := by
      intro i hi
      have := hel i hi
      rw [List.getElem?_eq_getElem (by omega), Option.bind_eq_some_iff] at this
      obtain ⟨cs', h1, h2⟩ := this
      obtain ⟨_, hcl, hc⟩ := World.cells?_some h1
      exact ⟨cs', _, hcl, hc, h2⟩
    obtain ⟨b, o, spot⟩ := a
    obtain ⟨cs', y, hcl, hc, _⟩ := key 0 (by omega)
    have hc0 := hc 0 hz0
    rw [List.getElem?_eq_getElem (by omega)] at hc0
    have hspot : spot = none := by
      have := World.cell?_spot hc0
      simpa [Addr.add] using this
    subst hspot
    refine .inr ⟨n, b, o, rfl, rfl, (by have := cell_lt hc0; simpa [Addr.add] using this), fun i hi => ?_⟩
    obtain ⟨cs', y, hcl, hc, hd⟩ := key i hi
    refine ⟨cs', y, hcl, fun j hj => ?_, hd⟩
    have := hc j hj
    simp only [add_plain] at this
    exact this
end
def Sz (n m : Int) (p : Prop) : Prop := m ≤ n ∧ -1 ≤ m ∧ (0 ≤ m → p)
theorem Sz.mono {n n' m : Int} {p q : Prop} (h : Sz n m p) (hn : n ≤ n') (hp : p → q) : Sz n' m q := ⟨by have := h.1; omega, h.2.1, fun h0 => hp (h.2.2 h0)⟩
theorem Sz.neg {n : Int} {p : Prop} (h : 0 ≤ n) : Sz n (-1) p := ⟨by omega, by omega, fun h => by omega⟩
theorem all_take {α : Type} {p : α → Prop} {l : List α} {k : Nat} (hk : k < l.length) (h : ∀ x ∈ l.take k, p x) (h2 : p l[k]) : ∀ x ∈ l.take (k + 1), p x := by
  rw [List.take_succ_eq_append_getElem hk]
  intro x hx
  rcases List.mem_append.1 hx with hx | hx
  · exact h x hx
  · simp only [List.mem_singleton] at hx; subst hx; exact h2
theorem all_take_b {α : Type} {p : α → Bool} {l : List α} {k : Nat} (hk : k < l.length) (h : (l.take k).all p = true) (h2 : p l[k] = true) : (l.take (k + 1)).all p = true := by
  rw [List.take_succ_eq_append_getElem hk, List.all_append, h]; simp [h2]
theorem all_no_b {α : Type} {p : α → Bool} {l : List α} {k : Nat} (hk : k < l.length) (h2 : p l[k] = false) : l.all p = false := by
  rw [List.all_eq_false]
  exact ⟨l[k], List.getElem_mem hk, by simp [h2]⟩
theorem size_one {w w' : World} {o : Obj} {B : Nat} (hb : Below B (w.alloc o) w') : w.heap.size + 1 ≤ w'.heap.size := by have := hb.size; simpa using this
theorem below_one {w w1 : World} {o : Obj} (h : Below (w.alloc o).heap.size (w.alloc o) w1) : Below w.heap.size w w1 := ((Below.refl _ _).alloc (Nat.le_refl _) _).trans (h.mono (by simp))
theorem ret_ints {a b c d : Int} (h1 : a = b) (h2 : c = d) : Ending.returned (.tuple #[.int .i64 a, .int .i64 c]) = .returned (.tuple #[.int .i64 b, .int .i64 d]) := by rw [h1, h2]
theorem ret_int {a b : Int} (h1 : a = b) : Ending.returned (.int .i64 a) = .returned (.int .i64 b) := by rw [h1]
theorem row_cell {w : World} {N : Nat} {e : TypeId} {cs : Array Value} (h : w.heap[N]? = some (.cells cs e (0, 0))) (j : Nat) : w.cell? ⟨N, j, none⟩ = cs[j]? := cell_of_row w N j cs e _ h
theorem row_frozen {w : World} {N : Nat} {e : TypeId} {cs : Array Value} (h : w.heap[N]? = some (.cells cs e (0, 0))) (j : Nat) : w.frozen? ⟨N, j, none⟩ = false := by
  simp [World.frozen?, h]
theorem row_set {w : World} {N : Nat} {e : TypeId} {cs : Array Value} (h : w.heap[N]? = some (.cells cs e (0, 0))) (j : Nat) (v : Value) : (w.setCell ⟨N, j, none⟩ v).heap[N]? = some (.cells (cs.setIfInBounds j v) e (0, 0)) := by
  rw [setCell_eq_setRow w N j cs e _ v h]; exact setRow_heap w N cs _ e _ h
theorem row_rd {w : World} {N : Nat} {e : TypeId} {cs : Array Value} (h : w.heap[N]? = some (.cells cs e (0, 0))) : rdOf w N = fun j => cs[j]? := by
  funext j; exact row_cell h j
theorem heap_set (w : World) (b o : Nat) (v : Value) (g : Nat) (h : g ≠ b) : (w.setCell ⟨b, o, none⟩ v).heap[g]? = w.heap[g]? := Below.heap_setCell _ _ _ _ h
/-- The first k of a row are laid. -/
def LaidR {α : Type} (at_ : (Nat → Option Value) → Nat → α → Prop) (z : Nat) (cs : Array Value) (l : List α) (k : Nat) : Prop := ∀ i x, i < k → l[i]? = some x → at_ (fun j => cs[j]?) (i * z) x
end Go.Proofs.YtlilfbcngncllaaGreatDoor.G
