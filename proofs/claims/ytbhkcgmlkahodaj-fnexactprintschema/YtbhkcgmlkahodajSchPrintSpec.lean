/- The specification's PrintSchema. -/
import Derived.Test.YtbhkcgmlkahodajSchSameSpec
import Derived.Test.YtbhkcgmlkahodajSchWordsThree
namespace Go.Proofs.Ytbhkcgmlkahodaj.G
open Go.ChangeShapes Go.WideShapes Go.ChangeAt Go.RowKit
set_option linter.unusedVariables false

def PrV (l : List Td) (t : ByteArray) (y : Int) : Prop := (SchOK l ∧ y = 0 ∧ 32 :: nl t = J (tdsT l)) ∨ (¬ SchOK l ∧ y = 1 ∧ t = ⟨#[]⟩)
theorem PrR.open_ {l : List Td} {e : Ending} (h : PrR l e) : ∃ t y, e = .returned (.tuple #[.string t, .int .i64 y]) ∧ PrV l t y := by
  rcases h with ⟨h, t, rfl, ht⟩ | ⟨h, rfl⟩
  · exact ⟨t, 0, rfl, .inl ⟨h, rfl, ht⟩⟩
  · exact ⟨_, 1, rfl, .inr ⟨h, rfl, rfl⟩⟩
theorem PrV.one {l : List Td} {t t' : ByteArray} {y y' : Int} (h : PrV l t y) (h' : PrV l t' y') : t = t' ∧ y = y' := by
  rcases h with ⟨h, rfl, ht⟩ | ⟨h, rfl, rfl⟩ <;> rcases h' with ⟨h', rfl, ht'⟩ | ⟨h', rfl, rfl⟩
  · rw [← ht'] at ht
    simp only [List.cons.injEq, true_and] at ht
    exact ⟨nl_inj ht, rfl⟩
  · exact absurd h h'
  · exact absurd h' h
  · exact ⟨rfl, rfl⟩
set_option maxHeartbeats 2000000 in
set_option maxRecDepth 40000 in
theorem spec_printSchema (a : Option Addr) (c : Nat) (l : List Td) (w : World) (hr : TdRow 0 w.heap.size w a l) (hb : TdsBd 1048576 l) :
    Calls Try.prog 22 #[.agg #[.slice a l.length c]] w fun e w' => PrR l e ∧ Below w.heap.size w w' := by
  have B0 : Hid (Below w.heap.size w (w.alloc (.cells #[.slice a l.length c] 30))) := (Below.refl _ _).alloc (Nat.le_refl _) _
  have K1 : Hid (∀ W0, Below w.heap.size w W0 → TdRow 0 W0.heap.size W0 a l) := fun W0 hB => TdRow.up hr hB
  have HB : Hid (TdsBd 1048576 l) := hb
  clear hr hb
  by_cases h1 : SchOK l
  · go_enter Try.func22, Try.ntmps22
    go_wp2_with fail
    refine (spec_schema_yes a c l _ (K1.out _ B0.out) HB.out h1).mono ?_
    rintro e w1 ⟨rfl, hb1⟩
    have k1 := fun o => hb1.cell (p := ⟨w.heap.size, o, none⟩) (by simp)
    have z1 := size_one hb1
    have Q1 : Hid (Below w.heap.size w w1) := below_one hb1
    clear hb1
    go_wp2_with fail
    refine (spec_print a c l _ (K1.out _ Q1.out) HB.out h1).mono ?_
    rintro e w2 ⟨t, rfl, ht, hb2⟩
    have HT : Hid (32 :: nl t = J (tdsT l)) := ht
    have Q2 : Hid (Below w.heap.size w w2) := Q1.out.trans (hb2.mono Q1.out.size)
    clear hb2 ht k1
    go_wp2_with fail
    go_ret2
    exact ⟨PrR.yes h1 HT.out, Q2.out⟩
  · go_enter Try.func22, Try.ntmps22
    go_wp2_with fail
    refine (spec_schema_no a c l _ (K1.out _ B0.out) HB.out h1).mono ?_
    rintro e w1 ⟨rfl, hb1⟩
    have Q1 : Hid (Below w.heap.size w w1) := below_one hb1
    clear hb1
    go_wp2_with fail
    go_ret2
    exact ⟨PrR.no h1, Q1.out⟩
end Go.Proofs.Ytbhkcgmlkahodaj.G
