/- The specification's text of a schema. -/
import Derived.Test.YtbhkcgmlkahodajSchText
import Derived.Test.YtbhkcgmlkahodajGJoin
namespace Go.Proofs.Ytbhkcgmlkahodaj.G
open Go.ChangeShapes Go.WideShapes Go.ChangeAt Go.RowKit
set_option linter.unusedVariables false

theorem sz_nl (s : ByteArray) : s.size = (nl s).length := (Array.length_toList).symm
theorem nl_app (a b : ByteArray) : nl (a ++ b) = nl a ++ nl b := by simp [nl, ByteArray.data_append]
theorem nl_mk (l : List UInt8) : nl ⟨l.toArray⟩ = l := by simp [nl]
theorem name_len {s : ByteArray} (h : nameB s = true) : (nl s).length ≤ 40 := by
  rw [← sz_nl]
  unfold nameB at h
  simp only [Bool.and_eq_true, decide_eq_true_eq] at h
  exact h.1.1.2
theorem J_cons_len (t : List UInt8) (r : List (List UInt8)) : (J (t :: r)).length = 1 + t.length + (J r).length := by simp [J]; omega
theorem J_app_len (a b : List (List UInt8)) : (J (a ++ b)).length = (J a).length + (J b).length := by rw [J_append, List.length_append]
theorem tkB_len (b : Bool) : (J (tkB b)).length ≤ 2 := by cases b <;> simp [tkB, J]
theorem agsT_len : ∀ {l : List Ag}, (∀ a ∈ l, nameB a.nm = true) → (J (agsT l)).length ≤ 60 * l.length
  | [], _ => by simp [agsT, J]
  | x :: l, h => by
    have h1 := agsT_len (l := l) (fun a ha => h a (by simp [ha]))
    have h2 := name_len (h x (by simp))
    have h3 := tkB_len x.need
    simp only [agsT, agT, J_app_len, J_cons_len, List.length_cons, List.length_nil]
    omega
theorem tyT_len {f : Fd} (h : nameB f.ty = true) : (J (tyT f)).length ≤ 60 := by
  have h2 := name_len h
  have h3 := tkB_len f.bg
  unfold tyT
  rw [J_app_len]
  split
  · simp only [J, List.length_cons, List.length_append, List.length_nil]; omega
  · simp only [J, List.length_cons, List.length_append, List.length_nil]; omega
theorem fdT_len {f : Fd} (h : GoodF f) (h4 : f.args.length ≤ 4) : (J (fdT f)).length ≤ 400 := by
  have h1 := name_len h.1
  have h2 := tyT_len h.2.1
  have h3 := agsT_len h.2.2
  unfold fdT
  have h5 : (J (fdA f.args)).length ≤ 250 := by
    unfold fdA
    split
    · simp [J]
    · simp only [J, J_append, List.length_cons, List.length_append, List.length_nil]; omega
  simp only [J, J_append, List.length_cons, List.length_append, List.length_nil]
  omega
theorem fdsT_len : ∀ {l : List Fd}, (∀ f ∈ l, GoodF f ∧ f.args.length ≤ 4) → (J (fdsT l)).length ≤ 400 * l.length
  | [], _ => by simp [fdsT, J]
  | x :: l, h => by
    have h1 := fdsT_len (l := l) (fun a ha => h a (by simp [ha]))
    have h2 := fdT_len (h x (by simp)).1 (h x (by simp)).2
    simp only [fdsT, J_app_len, List.length_cons]
    omega
theorem agsT_app (a b : List Ag) : agsT (a ++ b) = agsT a ++ agsT b := by
  induction a with
  | nil => rfl
  | cons x a ih => simp [agsT, ih]
theorem fdsT_app (a b : List Fd) : fdsT (a ++ b) = fdsT a ++ fdsT b := by
  induction a with
  | nil => rfl
  | cons x a ih => simp [fdsT, ih]
theorem tdsT_app (a b : List Td) : tdsT (a ++ b) = tdsT a ++ tdsT b := by
  induction a with
  | nil => rfl
  | cons x a ih => simp [tdsT, ih]
theorem agsT_take {l : List Ag} {k : Nat} (h : k < l.length) : agsT (l.take (k + 1)) = agsT (l.take k) ++ agT l[k] := by
  rw [List.take_succ_eq_append_getElem h, agsT_app]; simp [agsT]
theorem fdsT_take {l : List Fd} {k : Nat} (h : k < l.length) : fdsT (l.take (k + 1)) = fdsT (l.take k) ++ fdT l[k] := by
  rw [List.take_succ_eq_append_getElem h, fdsT_app]; simp [fdsT]
theorem tdsT_take {l : List Td} {k : Nat} (h : k < l.length) : tdsT (l.take (k + 1)) = tdsT (l.take k) ++ tdT l[k] := by
  rw [List.take_succ_eq_append_getElem h, tdsT_app]; simp [tdsT]
/-- A type's word. -/
def wT (x : Td) : ByteArray := ⟨([116, 121, 112, 101] ++ J (nl x.nm :: [123] :: (fdsT x.fs ++ [[125]]))).toArray⟩
theorem wT_J (x : Td) : 32 :: nl (wT x) = J (tdT x) := by unfold wT tdT; rw [nl_mk ([116, 121, 112, 101] ++ J (nl x.nm :: [123] :: (fdsT x.fs ++ [[125]])))]; rfl
/-- The text of a type behind some fields; behind some arguments of the next one. -/
def P2 (x : Td) (m : Nat) : List UInt8 := [116, 121, 112, 101] ++ J (nl x.nm :: [123] :: fdsT (x.fs.take m))
def P3 (x : Td) (m : Nat) (f : Fd) (n : Nat) : List UInt8 := P2 x m ++ J (nl f.nm :: ((if n = 0 then [] else [[40]]) ++ agsT (f.args.take n)))
theorem P2_len {x : Td} {m : Nat} (hn : nameB x.nm = true) (h : ∀ f ∈ x.fs, GoodF f ∧ f.args.length ≤ 4) (hl : x.fs.length ≤ 10) : (P2 x m).length ≤ 4100 := by
  have h1 := fdsT_len (l := x.fs.take m) (fun f hf => h f (List.mem_of_mem_take hf))
  have h2 := name_len hn
  have h3 : (x.fs.take m).length ≤ 10 := by simp; omega
  unfold P2
  simp only [List.length_append, List.length_cons, List.length_nil, J_cons_len]
  omega
theorem P3_len {x : Td} {m : Nat} {f : Fd} {n : Nat} (hn : nameB x.nm = true) (h : ∀ f ∈ x.fs, GoodF f ∧ f.args.length ≤ 4) (hl : x.fs.length ≤ 10) (hf : GoodF f) (h4 : f.args.length ≤ 4) : (P3 x m f n).length ≤ 4600 := by
  have h1 := P2_len (m := m) hn h hl
  have h2 := name_len hf.1
  have h3 := agsT_len (l := f.args.take n) (fun a ha => hf.2.2 a (List.mem_of_mem_take ha))
  have h5 : (f.args.take n).length ≤ 4 := by simp; omega
  unfold P3
  rw [List.length_append, J_cons_len, J_app_len]
  have h6 : (J (if n = 0 then [] else [[40]])).length ≤ 2 := by split <;> simp [J]
  omega
theorem P2_zero (x : Td) : P2 x 0 = [116, 121, 112, 101, 32] ++ nl x.nm ++ [32, 123] := by simp [P2, J, fdsT]
theorem P3_zero (x : Td) (m : Nat) (f : Fd) : P3 x m f 0 = P2 x m ++ ([32] ++ nl f.nm) := by simp [P3, J, agsT]
theorem P3_first {x : Td} {m : Nat} {f : Fd} (h : 0 < f.args.length) : P3 x m f 1 = P3 x m f 0 ++ (([32, 40, 32] : List UInt8) ++ nl (f.args[0]'h).nm ++ ([32, 58, 32, 73, 110, 116] : List UInt8)) ++ J (tkB (f.args[0]'h).need) := by
  have h2 := agsT_take (l := f.args) (k := 0) h
  rw [Nat.zero_add] at h2
  unfold P3
  rw [h2]
  simp [J, agsT, agT]
theorem P3_next {x : Td} {m : Nat} {f : Fd} {n : Nat} (h : n < f.args.length) (h0 : 0 < n) : P3 x m f (n + 1) = P3 x m f n ++ (([32] : List UInt8) ++ nl (f.args[n]'h).nm ++ ([32, 58, 32, 73, 110, 116] : List UInt8)) ++ J (tkB (f.args[n]'h).need) := by
  unfold P3
  rw [agsT_take h, if_neg (by omega), if_neg (by omega)]
  simp [J, J_append, agT]
theorem P2_next {x : Td} {m : Nat} (h : m < x.fs.length) : P2 x (m + 1) = P2 x m ++ J (fdT x.fs[m]) := by
  unfold P2
  rw [fdsT_take h, ← List.cons_append, ← List.cons_append, J_append]
  simp
theorem P2_done (x : Td) : P2 x x.fs.length ++ [32, 125] = nl (wT x) := by
  unfold P2 wT
  rw [nl_mk ([116, 121, 112, 101] ++ J (nl x.nm :: [123] :: (fdsT x.fs ++ [[125]]))), List.take_length, ← List.cons_append, ← List.cons_append, J_append]
  simp [J]
theorem P3_done {x : Td} {m : Nat} (h : m < x.fs.length) {T : List UInt8} (hT : 32 :: T = J (tyT x.fs[m])) : P2 x (m + 1) = P3 x m x.fs[m] x.fs[m].args.length ++ (if x.fs[m].args.length = 0 then [] else [32, 41]) ++ ([32, 58, 32] ++ T) := by
  rw [P2_next h]
  unfold fdT P3 fdA
  have e : J ([58] :: tyT x.fs[m]) = [32, 58, 32] ++ T := by rw [J, ← hT]; rfl
  rw [List.take_length]
  cases hc : x.fs[m].args with
  | nil => simp only [List.isEmpty_nil, if_true, List.length_nil, List.nil_append, agsT]; rw [← List.singleton_append (l := [58] :: tyT x.fs[m]), J_append, e]; simp [J]
  | cons a al =>
    simp only [List.isEmpty_cons, Bool.false_eq_true, if_false, List.length_cons, Nat.succ_ne_zero]
    rw [J, J, J_append, e]
    simp [J, J_append]
theorem join_words (l : List Td) : ∀ k, 0 < k → k ≤ l.length → 32 :: nl (joinTo (l.map wT) k) = J (tdsT (l.take k))
  | 0, h, _ => by omega
  | 1, _, h => by
    have := tdsT_take (l := l) (k := 0) h
    simp only [Nat.zero_add] at this
    rw [this, J_append]
    simp only [joinTo, Nat.lt_irrefl, if_false, nl_app]
    rw [List.getD_eq_getElem?_getD, List.getElem?_eq_getElem (by rw [List.length_map]; omega)]
    simp only [Option.getD_some, List.getElem_map, List.take_zero, tdsT, J, List.nil_append, nl]
    exact wT_J l[0]
  | k + 2, _, h => by
    have ih := join_words l (k + 1) (by omega) (by omega)
    rw [tdsT_take (by omega), J_append, ← ih, joinTo, if_pos (by omega), nl_app, nl_app]
    rw [List.getD_eq_getElem?_getD, List.getElem?_eq_getElem (by rw [List.length_map]; omega)]
    simp only [Option.getD_some, List.getElem_map]
    rw [← wT_J]
    simp [nl]
theorem Fd4 {l : List Td} (h : SchOK l) {x : Td} (hx : x ∈ l) : ∀ f ∈ x.fs, GoodF f ∧ f.args.length ≤ 4 := fun f hf => ⟨(h.good x hx).2 f hf, ((h.2.2.2.2.2 x hx).2.2.2.2 f hf).2.1⟩

set_option maxHeartbeats 400000 in
theorem spec_bit (b : Bool) (w : World) : Calls Try.prog 68 #[.bool b] w fun e w' => e = .returned (.int .i64 (if b then 1 else 0)) ∧ w' = w := by
  cases b
  · go_enter Try.func68, Try.ntmps68
    go_wp2_with fail
    go_ret
    exact ⟨rfl, rfl⟩
  · go_enter Try.func68, Try.ntmps68
    go_wp2_with fail
    go_ret
    exact ⟨rfl, rfl⟩
theorem sz_lit (l : List UInt8) : (⟨l.toArray⟩ : ByteArray).size = l.length := by simp [ByteArray.size]
set_option maxHeartbeats 1000000 in
theorem spec_type (f : Fd) (a3 : Option Addr) (c3 : Nat) (w : World) (h : nameB f.ty = true) :
    Calls Try.prog 69 #[.agg #[.string f.nm, .slice a3 f.args.length c3, .string f.ty, .bool f.ls, .bool f.bg]] w fun e w' => ∃ T, e = .returned (.string T) ∧ 32 :: nl T = J (tyT f) ∧ Below w.heap.size w w' := by
  have B0 : Hid (Below w.heap.size w (w.alloc (.cells #[.string f.nm, .slice a3 f.args.length c3, .string f.ty, .bool f.ls, .bool f.bg] 36))) := (Below.refl _ _).alloc (Nat.le_refl _) _
  have hz := name_len h
  rw [← sz_nl] at hz
  have z1 : (⟨#[91, 32]⟩ : ByteArray).size = 2 := rfl
  have z2 : (⟨#[32, 93]⟩ : ByteArray).size = 2 := rfl
  have z3 : (⟨#[32, 33]⟩ : ByteArray).size = 2 := rfl
  have n1 : ¬ (9223372036854775807 < (⟨#[91, 32]⟩ : ByteArray).size + f.ty.size) := by omega
  have n2 : ¬ (9223372036854775807 < ((⟨#[91, 32]⟩ : ByteArray) ++ f.ty).size + (⟨#[32, 93]⟩ : ByteArray).size) := by rw [ByteArray.size_append]; omega
  have n3 : ¬ (9223372036854775807 < (((⟨#[91, 32]⟩ : ByteArray) ++ f.ty) ++ ⟨#[32, 93]⟩).size + (⟨#[32, 33]⟩ : ByteArray).size) := by rw [ByteArray.size_append, ByteArray.size_append]; omega
  have n4 : ¬ (9223372036854775807 < f.ty.size + (⟨#[32, 33]⟩ : ByteArray).size) := by omega
  clear z1 z2 z3 hz
  cases hls : f.ls <;> cases hbg : f.bg
  · have HN : Hid (32 :: nl f.ty = J (tyT f)) := by simp [Hid, tyT, hls, hbg, tkB, J]
    rw [hls, hbg] at B0
    go_enter Try.func69, Try.ntmps69
    go_wp2_with fail
    go_ret
    exact ⟨_, rfl, HN.out, B0.out⟩
  · have HN : Hid (32 :: nl (f.ty ++ ⟨#[32, 33]⟩) = J (tyT f)) := by rw [Hid, nl_app]; simp [tyT, hls, hbg, tkB, J, nl]
    rw [hls, hbg] at B0
    go_enter Try.func69, Try.ntmps69
    go_wp2_with fail
    go_ret
    exact ⟨_, rfl, HN.out, B0.out⟩
  · have HN : Hid (32 :: nl (((⟨#[91, 32]⟩ : ByteArray) ++ f.ty) ++ ⟨#[32, 93]⟩) = J (tyT f)) := by rw [Hid, nl_app, nl_app]; simp [tyT, hls, hbg, tkB, J, nl]
    rw [hls, hbg] at B0
    go_enter Try.func69, Try.ntmps69
    go_wp2_with fail
    go_ret
    exact ⟨_, rfl, HN.out, B0.out⟩
  · have HN : Hid (32 :: nl ((((⟨#[91, 32]⟩ : ByteArray) ++ f.ty) ++ ⟨#[32, 93]⟩) ++ ⟨#[32, 33]⟩) = J (tyT f)) := by rw [Hid, nl_app, nl_app, nl_app]; simp [tyT, hls, hbg, tkB, J, nl]
    rw [hls, hbg] at B0
    go_enter Try.func69, Try.ntmps69
    go_wp2_with fail
    go_ret
    exact ⟨_, rfl, HN.out, B0.out⟩
end Go.Proofs.Ytbhkcgmlkahodaj.G
