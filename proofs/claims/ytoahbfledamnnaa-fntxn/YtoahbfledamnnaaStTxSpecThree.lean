/- The specification's ReadTxn, WriteTxn and Commit. -/
import Derived.Test.YtoahbfledamnnaaStTxRead
import Derived.Test.YtoahbfledamnnaaStDraw
import Derived.Deep.CutBlock
import Derived.Deep.CutRange
namespace Go.Proofs.Ytoahbfledamnnaa.G
open Go.ChangeShapes Go.WideShapes Go.ChangeAt Go.RowKit
set_option linter.unusedVariables false

/-- What ReadTxn answers: a transaction, a value, a code. -/
def RtIs (l : Chs) (now st : Int) (rs : List Int) (ws : List Ve) (key : Int) (st' : Int) (rs' : List Int) (ws' : List Ve) (v cd : Int) : Prop :=
  (txnB l now st rs ws = false ∧ st' = 0 ∧ rs' = [] ∧ ws' = [] ∧ v = 0 ∧ cd = 1) ∨
  (txnB l now st rs ws = true ∧ inS key 0 15 = false ∧ st' = 0 ∧ rs' = [] ∧ ws' = [] ∧ v = 0 ∧ cd = 4) ∨
  (txnB l now st rs ws = true ∧ inS key 0 15 = true ∧ st' = st ∧ rs' = rdK rs ws key ∧ ws' = ws ∧ v = rdV l st ws key ∧ cd = 0)
/-- A transaction, a value and a code that a call tells. -/
def TvS (w : World) (st' : Int) (rs' : List Int) (ws' : List Ve) (v cd : Int) (e : Ending) (w' : World) : Prop := (∃ ra' rq' wa' wq', e = .returned (.tuple #[.agg #[.int .i64 st', .slice ra' rs'.length rq', .slice wa' ws'.length wq'], .int .i64 v, .int .i64 cd]) ∧ TxOwn 0 w'.heap.size w' ra' wa' rs' ws') ∧ Below w.heap.size w w'
theorem rtIs (l : Chs) (now st : Int) (rs : List Int) (ws : List Ve) (key : Int) (hb : TxBd 1048576 rs ws) : ∃ st' rs' ws' v cd, RtIs l now st rs ws key st' rs' ws' v cd ∧ TxBd 1048576 rs' ws' := by
  cases hT : txnB l now st rs ws
  · exact ⟨_, _, _, _, _, .inl ⟨hT, rfl, rfl, rfl, rfl, rfl⟩, Nat.zero_le _, Nat.zero_le _⟩
  cases hK : inS key 0 15
  · exact ⟨_, _, _, _, _, .inr (.inl ⟨hT, hK, rfl, rfl, rfl, rfl, rfl⟩), Nat.zero_le _, Nat.zero_le _⟩
  · exact ⟨_, _, _, _, _, .inr (.inr ⟨hT, hK, rfl, rfl, rfl, rfl, rfl⟩), by have := rdK_len (ws := ws) (key := key) (txnB_all hT).2.2.2; omega, hb.2⟩
end Go.Proofs.Ytoahbfledamnnaa.G
