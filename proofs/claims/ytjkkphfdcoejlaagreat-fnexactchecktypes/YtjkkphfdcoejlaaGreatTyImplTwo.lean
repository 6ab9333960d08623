/- CheckTypes: the program's side, whole. -/
import Derived.Test.YtjkkphfdcoejlaaGreatTyImpl
namespace Go.Proofs.YtjkkphfdcoejlaaGreat
open Go.ChangeShapes Go.WideShapes Go.ChangeAt Go.RowKit
set_option linter.unusedVariables false

/-- What CheckTypes tells. -/
def CtR (S : List G.Td) (D : List De) (x y : Int) : Prop := (¬ G.SchOK S ∧ x = 0 ∧ y = 1) ∨ (G.SchOK S ∧ docB D = false ∧ x = 0 ∧ y = 1) ∨ (G.SchOK S ∧ docB D = true ∧ x = docC S D D ∧ y = 0)
theorem CtR.one {S : List G.Td} {D : List De} {x y x' y' : Int} (h : CtR S D x y) (h' : CtR S D x' y') : x = x' ∧ y = y' := by
  rcases h with ⟨a1, rfl, rfl⟩ | ⟨a1, a2, rfl, rfl⟩ | ⟨a1, a2, rfl, rfl⟩ <;> rcases h' with ⟨b1, rfl, rfl⟩ | ⟨b1, b2, rfl, rfl⟩ | ⟨b1, b2, rfl, rfl⟩ <;>
    first | exact ⟨rfl, rfl⟩ | exact absurd b1 a1 | exact absurd a1 b1 | (rw [a2] at b2; cases b2)
def SaysC (R : Int → Int → Prop) (e : Ending) : Prop := ∃ x y, e = .returned (.tuple #[.int .i64 x, .int .i64 y]) ∧ R x y

set_option maxHeartbeats 4000000 in
set_option maxRecDepth 40000 in
theorem impl_checkTypes (a : Option Addr) (c : Nat) (S : List G.Td) (a' : Option Addr) (c' : Nat) (D : List De) (w : World) (hS : G.TdRow 0 w.heap.size w a S) (hB : G.TdsBd 1048576 S) (hD : DeRow 0 w.heap.size w a' D) (hb : DefsBd 1048576 D) :
    Calls Tryz.prog 9 #[.agg #[.slice a S.length c], .agg #[.slice a' D.length c']] w fun e w' => SaysC (CtR S D) e ∧ Below w.heap.size w w' := by
  have HS : Hid (∀ W0, Below w.heap.size w W0 → G.TdRow 0 W0.heap.size W0 a S) := fun W0 hB => G.TdRow.up hS hB
  have HB : Hid (G.TdsBd 1048576 S) := hB
  have K1 : Hid (∀ W0, Below w.heap.size w W0 → DeRow 0 W0.heap.size W0 a' D) := fun W0 hB => DeRow.up hD hB
  have HD : Hid (DefsBd 1048576 D) := hb
  clear hS hB hD hb
  go_enter Tryz.func9, Tryz.ntmps9
  go_wp2_with fail
  obtain ⟨W, hW⟩ : ∃ W, W = (w.alloc (.cells #[.slice a S.length c] 34)).alloc (.cells #[.slice a' D.length c'] 38) := ⟨_, rfl⟩
  rw [← hW]
  have zW : W.heap.size = w.heap.size + 2 := by rw [hW]; simp
  have BW : Hid (Below w.heap.size w W) := by rw [hW]; exact ((Below.refl _ _).alloc (Nat.le_refl _) _).alloc (by simp) _
  have A0 : Hid (W.heap[w.heap.size]? = some (.cells #[.slice a S.length c] 34 (0, 0))) := by rw [Hid, hW, Below.heap_alloc _ _ _ (by simp)]; exact heap_alloc_new _ _
  have A1 : Hid (W.heap[w.heap.size + 1]? = some (.cells #[.slice a' D.length c'] 38 (0, 0))) := by
    rw [Hid, hW]
    have := heap_alloc_new (w.alloc (.cells #[.slice a S.length c] 34)) (.cells #[.slice a' D.length c'] 38)
    simpa using this
  clear hW
  refine (G.impl_schema a c S _ (HS.out _ BW.out) HB.out).mono ?_
  rintro e w1 ⟨⟨b, rfl, hbl⟩, hb1⟩
  have z1 := hb1.size
  have Q1 : Hid (Below w.heap.size w w1) := BW.out.trans (hb1.mono (by omega))
  have A01 : Hid (w1.heap[w.heap.size]? = some (.cells #[.slice a S.length c] 34 (0, 0))) := (hb1.block _ (by omega)).trans A0.out
  have A11 : Hid (w1.heap[w.heap.size + 1]? = some (.cells #[.slice a' D.length c'] 38 (0, 0))) := (hb1.block _ (by omega)).trans A1.out
  have c1 := row_cell A11.out 0
  clear hb1
  rcases hbl with ⟨rfl, hp⟩ | ⟨rfl, hp⟩
  case inr =>
    have HN : Hid (CtR S D 0 1) := .inl ⟨hp, rfl, rfl⟩
    clear hp
    go_wp2_with fail
    go_ret2
    exact ⟨⟨_, _, rfl, HN.out⟩, Q1.out⟩
  have HOK : Hid (G.SchOK S) := hp
  clear hp
  go_wp2_with fail
  refine (impl_doc a' c' D _ (K1.out _ Q1.out) HD.out.1 HD.out.2).mono ?_
  rintro e w2 ⟨rfl, hb2⟩
  have z2 := hb2.size
  have Q2 : Hid (Below w.heap.size w w2) := Q1.out.trans (hb2.mono (by omega))
  have c20 := row_cell ((hb2.block w.heap.size (by omega)).trans A01.out) 0
  have c21 := row_cell ((hb2.block (w.heap.size + 1) (by omega)).trans A11.out) 0
  clear hb2 c1
  cases hdb : docB D with
  | false =>
    have HN : Hid (CtR S D 0 1) := .inr (.inl ⟨HOK.out, hdb, rfl, rfl⟩)
    clear hdb
    go_wp2_with fail
    go_ret2
    exact ⟨⟨_, _, rfl, HN.out⟩, Q2.out⟩
  | true =>
    have HN : Hid (CtR S D (docC S D D) 0) := .inr (.inr ⟨HOK.out, hdb, rfl, rfl⟩)
    have HDB : Hid (docB D = true) := hdb
    clear hdb
    go_wp2_with fail
    refine (types_fault a c S a' c' D _ (HS.out _ Q2.out) HOK.out.2.2.2.2.1 HB.out (K1.out _ Q2.out) HD.out HDB.out).mono ?_
    rintro e w3 ⟨rfl, hb3⟩
    have Q3 : Hid (Below w.heap.size w w3) := Q2.out.trans (hb3.mono (by omega))
    generalize docC S D D = x at *
    clear hb3 c20 c21
    go_wp2_with fail
    go_ret2
    exact ⟨⟨_, _, rfl, HN.out⟩, Q3.out⟩
end Go.Proofs.YtjkkphfdcoejlaaGreat
