/- The program's pieces of texts: quoted, pairs, lists, objects. -/
import Derived.Test.YtoaeggfnlenjkaaGreatDoorOuText
import Derived.Test.YtoaeggfnlenjkaaGreatDoorShelf
import Derived.Lib.Join
namespace Go.Proofs.YtoaeggfnlenjkaaGreatDoor.G
open Go.ChangeShapes Go.WideShapes Go.ChangeAt Go.RowKit
set_option linter.unusedVariables false

def qd (s : ByteArray) : ByteArray := ⟨#[34]⟩ ++ s ++ ⟨#[34]⟩
def pr (k t : ByteArray) : ByteArray := qd k ++ ⟨#[58]⟩ ++ t
theorem qd_size (s : ByteArray) : (qd s).size = s.size + 2 := by
  have h1 : (⟨#[34]⟩ : ByteArray).size = 1 := rfl
  unfold qd; rw [ByteArray.size_append, ByteArray.size_append]; omega
theorem pr_size (k t : ByteArray) : (pr k t).size = k.size + t.size + 3 := by
  have h1 : (⟨#[58]⟩ : ByteArray).size = 1 := rfl
  unfold pr; rw [ByteArray.size_append, ByteArray.size_append, qd_size]; omega
theorem bytes_same {a b : ByteArray} (h : a.data.toList = b.data.toList) : a = b := by
  apply ByteArray.ext; exact Array.toList_inj.1 h
theorem impl_quoted (s : ByteArray) (w : World) (hs : s.size ≤ 1073741824) : Calls Tryz.prog 47 #[.string s] w fun e w' => e = .returned (.string (qd s)) ∧ w' = w := by
  have h1 : (⟨#[34]⟩ : ByteArray).size = 1 := rfl
  have n1 : ¬ (9223372036854775807 < (⟨#[34]⟩ : ByteArray).size + s.size) := by omega
  have n1' : ¬ (9223372036854775807 < 1 + s.size) := by omega
  have n2 : ¬ (9223372036854775807 < (⟨#[34]⟩ ++ s : ByteArray).size + (⟨#[34]⟩ : ByteArray).size) := by rw [ByteArray.size_append]; omega
  have n2' : ¬ (9223372036854775807 < (⟨#[34]⟩ ++ s : ByteArray).size + 1) := by rw [ByteArray.size_append]; omega
  clear h1
  go_enter Tryz.func47, Tryz.ntmps47
  go_wp2_with fail
  go_ret
  exact ⟨rfl, rfl⟩
theorem impl_pair (k t : ByteArray) (w : World) (hk : k.size ≤ 1073741824) (ht : t.size ≤ 1073741824) : Calls Tryz.prog 46 #[.string k, .string t] w fun e w' => e = .returned (.string (pr k t)) ∧ w' = w := by
  have h1 : (⟨#[58]⟩ : ByteArray).size = 1 := rfl
  have hq := qd_size k
  have HF : Hid (qd k ++ ⟨#[58]⟩ ++ t = pr k t) := rfl
  have n1 : ¬ (9223372036854775807 < (qd k).size + (⟨#[58]⟩ : ByteArray).size) := by omega
  have n1' : ¬ (9223372036854775807 < (qd k).size + 1) := by omega
  have n2 : ¬ (9223372036854775807 < (qd k ++ ⟨#[58]⟩ : ByteArray).size + t.size) := by rw [ByteArray.size_append]; omega
  clear h1 hq
  go_enter Tryz.func46, Tryz.ntmps46
  go_wp2_with fail
  refine (impl_quoted k _ hk).mono ?_
  rintro e w1 ⟨rfl, hw⟩
  rw [hw]
  go_wp2_with fail
  go_ret
  exact ⟨by rw [← HF.out]; rfl, rfl⟩
/-- Texts joined by commas: the library's way and ours. -/
theorem cj_cons (x : ByteArray) : ∀ (r : List ByteArray) (k : Nat), k ≤ r.length → (cjTo (x :: r) (k + 1)).data.toList = x.data.toList ++ ((r.take k).map fun s => 44 :: s.data.toList).flatten
  | r, 0, _ => by
    show (cjTo (x :: r) 0 ++ (x :: r).getD 0 ⟨#[]⟩ : ByteArray).data.toList = _
    simp [cjTo]
  | r, k + 1, hk => by
    have ih := cj_cons x r k (by omega)
    have hg : (x :: r).getD (k + 1) ⟨#[]⟩ = r[k] := by
      rw [List.getD_eq_getElem?_getD, List.getElem?_cons_succ, List.getElem?_eq_getElem (by omega)]; rfl
    rw [cjTo, if_pos (by omega), hg, List.take_succ_eq_append_getElem (by omega)]
    rw [ByteArray.data_append, ByteArray.data_append, Array.toList_append, Array.toList_append, ih]
    show (_ ++ [44]) ++ r[k].data.toList = _
    simp only [List.map_append, List.flatten_append, List.map_cons, List.map_nil, List.flatten_cons, List.flatten_nil, List.append_nil, List.append_assoc, List.cons_append, List.nil_append]
theorem cj_join (ss : List ByteArray) : (⟨(Lib.join (ss.map (·.data.toList)) [44]).toArray⟩ : ByteArray) = cj ss := by
  apply bytes_same
  cases ss with
  | nil => rfl
  | cons x r =>
    unfold cj
    rw [List.length_cons, cj_cons x r r.length (Nat.le_refl _), List.take_length, List.map_cons, Lib.join_cons]
    simp only [Lib.joinTail, List.map_map]
    simp
    congr 1
theorem join_len (ss : List ByteArray) : (Lib.join (ss.map (·.data.toList)) [44]).length ≤ sumW ss := by
  have h := cj_size ss
  rw [← cj_join] at h
  have e : (⟨(Lib.join (ss.map (·.data.toList)) [44]).toArray⟩ : ByteArray).size = (Lib.join (ss.map (·.data.toList)) [44]).length := by simp [ByteArray.size]
  omega
theorem impl_join (a : Option Addr) (c : Nat) (ss : List ByteArray) (w : World) (hr : KeRow 0 w.heap.size w a ss) (hc : ss.length ≤ c) (hz : sumW ss ≤ 1073741824) :
    Calls Tryz.prog 89 #[.slice a ss.length c, .string ⟨#[44]⟩] w fun e w' => e = .returned (.string (cj ss)) ∧ Below w.heap.size w w' := by
  rcases hr with rfl | ⟨b, o, rfl, _, hb, h3⟩
  · refine (Tryz.strings_Join_none a c ⟨#[44]⟩ w).mono ?_
    rintro e w' ⟨rfl, rfl⟩
    exact ⟨rfl, Below.refl _ _⟩
  · have hl := len_sumW ss
    have hj := join_len ss
    have := Tryz.strings_Join b o c ss ⟨#[44]⟩ w (fun j x hx => by have := h3 j x hx; rwa [Nat.mul_one] at this) hb (by omega) hc (by show (Lib.join _ [44]).length ≤ _; omega)
    refine this.mono ?_
    rintro e w' ⟨rfl, hb'⟩
    refine ⟨?_, hb'⟩
    show Ending.returned (.string ⟨(Lib.join _ [44]).toArray⟩) = _
    rw [cj_join]
def objT (ss : List ByteArray) : ByteArray := ⟨#[123]⟩ ++ cj ss ++ ⟨#[125]⟩
def lisT (ss : List ByteArray) : ByteArray := ⟨#[91]⟩ ++ cj ss ++ ⟨#[93]⟩
theorem impl_object (a : Option Addr) (c : Nat) (ss : List ByteArray) (w : World) (hr : KeRow 0 w.heap.size w a ss) (hc : ss.length ≤ c) (hz : sumW ss ≤ 1073741824) :
    Calls Tryz.prog 45 #[.slice a ss.length c] w fun e w' => e = .returned (.string (objT ss)) ∧ Below w.heap.size w w' := by
  have HR : Hid _ := hr
  have hj := cj_size ss
  have h1 : (⟨#[123]⟩ : ByteArray).size = 1 := rfl
  have n1 : ¬ (9223372036854775807 < (⟨#[123]⟩ : ByteArray).size + (cj ss).size) := by omega
  have n1' : ¬ (9223372036854775807 < 1 + (cj ss).size) := by omega
  have n2' : ¬ (9223372036854775807 < (⟨#[123]⟩ ++ cj ss : ByteArray).size + 1) := by rw [ByteArray.size_append]; omega
  have n2 : ¬ (9223372036854775807 < (⟨#[123]⟩ ++ cj ss : ByteArray).size + (⟨#[125]⟩ : ByteArray).size) := n2'
  clear hr hj h1
  go_enter Tryz.func45, Tryz.ntmps45
  go_wp2_with fail
  refine (impl_join a c ss _ HR.out hc hz).mono ?_
  rintro e w1 ⟨rfl, hb1⟩
  have HB : Hid _ := hb1
  clear hb1
  go_wp2_with fail
  go_ret
  exact ⟨rfl, HB.out⟩
theorem impl_list (a : Option Addr) (c : Nat) (ss : List ByteArray) (w : World) (hr : KeRow 0 w.heap.size w a ss) (hc : ss.length ≤ c) (hz : sumW ss ≤ 1073741824) :
    Calls Tryz.prog 75 #[.slice a ss.length c] w fun e w' => e = .returned (.string (lisT ss)) ∧ Below w.heap.size w w' := by
  have HR : Hid _ := hr
  have hj := cj_size ss
  have h1 : (⟨#[91]⟩ : ByteArray).size = 1 := rfl
  have n1 : ¬ (9223372036854775807 < (⟨#[91]⟩ : ByteArray).size + (cj ss).size) := by omega
  have n1' : ¬ (9223372036854775807 < 1 + (cj ss).size) := by omega
  have n2' : ¬ (9223372036854775807 < (⟨#[91]⟩ ++ cj ss : ByteArray).size + 1) := by rw [ByteArray.size_append]; omega
  have n2 : ¬ (9223372036854775807 < (⟨#[91]⟩ ++ cj ss : ByteArray).size + (⟨#[93]⟩ : ByteArray).size) := n2'
  clear hr hj h1
  go_enter Tryz.func75, Tryz.ntmps75
  go_wp2_with fail
  refine (impl_join a c ss _ HR.out hc hz).mono ?_
  rintro e w1 ⟨rfl, hb1⟩
  have HB : Hid _ := hb1
  clear hb1
  go_wp2_with fail
  go_ret
  exact ⟨rfl, HB.out⟩
end Go.Proofs.YtoaeggfnlenjkaaGreatDoor.G
