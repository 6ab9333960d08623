/- Paths: their parts between points, in plain terms. -/
import Derived.Test.YtoaeggfnlenjkaaGreatDoorOuText
import Derived.Test.YtoaeggfnlenjkaaGreatDoorLexMathD
import Derived.Test.YtoaeggfnlenjkaaGreatDoorGBase
namespace Go.Proofs.YtoaeggfnlenjkaaGreatDoor.G
open Go.ChangeShapes Go.WideShapes Go.ChangeAt Go.RowKit
set_option linter.unusedVariables false

def splitL : List UInt8 → List (List UInt8)
  | [] => [[]]
  | c :: r => if c = 46 then [] :: splitL r else match splitL r with | p :: ps => (c :: p) :: ps | [] => [[c]]
theorem splitL_ne : ∀ l : List UInt8, splitL l ≠ []
  | [] => by simp [splitL]
  | c :: r => by
    rw [splitL]
    split
    · simp
    · split <;> simp
theorem splitL_none : ∀ {l : List UInt8}, (∀ c ∈ l, c ≠ 46) → splitL l = [l]
  | [], _ => rfl
  | c :: r, h => by
    rw [splitL, if_neg (h c (by simp)), splitL_none (fun x hx => h x (by simp [hx]))]
theorem splitL_cut : ∀ {p r : List UInt8}, (∀ c ∈ p, c ≠ 46) → splitL (p ++ 46 :: r) = p :: splitL r
  | [], r, _ => by simp [splitL]
  | c :: p, r, h => by
    rw [List.cons_append, splitL, if_neg (h c (by simp)), splitL_cut (fun x hx => h x (by simp [hx]))]
/-- A part is a name, or a number from 0 on. -/
def placeB (l : List UInt8) : Bool := match numT l with | some n => decide (0 ≤ n) | none => false
def partB (s : ByteArray) : Bool := nameB s || placeB s.toList
def partL (l : List UInt8) : Bool := partB ⟨l.toArray⟩
def pathB (s : ByteArray) : Bool := (splitL s.toList).all partL
def pathsB (ss : List ByteArray) : Bool := ss.all pathB
theorem bytes_list (s : ByteArray) : (⟨s.toList.toArray⟩ : ByteArray) = s := by
  rw [ByteArray.toList_eq]
theorem partL_of (s : ByteArray) : partL s.toList = partB s := by unfold partL; rw [bytes_list]
theorem toList_extract (s : ByteArray) (i j : Nat) : (s.extract i j).toList = (s.toList.drop i).take (j - i) := by
  rw [ByteArray.toList_eq, ByteArray.toList_eq]
  simp
theorem toList_size (s : ByteArray) : s.toList.length = s.size := by rw [ByteArray.toList_eq]; simp
theorem toList_get (s : ByteArray) (i : Nat) (h : i < s.size) : s.toList[i]? = some s[i] := by
  rw [ByteArray.toList_eq]
  simp [ByteArray.getElem_eq_getElem_data, h]
/-- What the answer's text is. -/
def sepT (k : Nat) : ByteArray := if 0 < k then ⟨#[44]⟩ else ⟨#[44, 34, 101, 114, 114, 111, 114, 115, 34, 58, 91]⟩
def dtTo (t : ByteArray) (ps : List ByteArray) : Nat → ByteArray
  | 0 => ⟨#[123, 34, 100, 97, 116, 97, 34, 58]⟩ ++ t
  | k + 1 => dtTo t ps k ++ (sepT k ++ ⟨#[34]⟩ ++ ps.getD k ⟨#[]⟩ ++ ⟨#[34]⟩)
def dataT (t : ByteArray) (ps : List ByteArray) : ByteArray :=
  (if 0 < ps.length then dtTo t ps ps.length ++ ⟨#[93]⟩ else dtTo t ps 0) ++ ⟨#[125]⟩
theorem sepT_size (k : Nat) : (sepT k).size ≤ 11 := by unfold sepT; split <;> decide
theorem dtTo_size (t : ByteArray) (ps : List ByteArray) : ∀ k, k ≤ ps.length → (dtTo t ps k).size ≤ 8 + t.size + 13 * k + sumW (ps.take k)
  | 0, _ => by rw [dtTo, ByteArray.size_append]; have : (⟨#[123, 34, 100, 97, 116, 97, 34, 58]⟩ : ByteArray).size = 8 := rfl; omega
  | k + 1, hk => by
    have ih := dtTo_size t ps k (by omega)
    have h1 : (⟨#[34]⟩ : ByteArray).size = 1 := rfl
    have hg : ps.getD k ⟨#[]⟩ = ps[k] := by rw [List.getD_eq_getElem?_getD, List.getElem?_eq_getElem (by omega)]; rfl
    have := sepT_size k
    rw [dtTo, hg, List.take_succ_eq_append_getElem (by omega), sumW_app, sumW_cons, sumW_nil]
    repeat rw [ByteArray.size_append]
    omega
def dataE (h : Oh) (sub : Ous) (ps : List ByteArray) : Ending :=
  if 4096 < ps.length then .returned (.tuple #[.string ⟨#[]⟩, .int .i64 2])
  else if outB 20 h sub = false then .returned (.tuple #[.string ⟨#[]⟩, .int .i64 1])
  else if pathsB ps = false then .returned (.tuple #[.string ⟨#[]⟩, .int .i64 3])
  else .returned (.tuple #[.string (dataT (outT h sub) ps), .int .i64 0])
end Go.Proofs.YtoaeggfnlenjkaaGreatDoor.G
