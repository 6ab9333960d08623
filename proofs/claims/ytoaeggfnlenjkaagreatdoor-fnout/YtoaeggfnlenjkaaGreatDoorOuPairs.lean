/- The program's texts of an object's items. -/
import Derived.Test.YtoaeggfnlenjkaaGreatDoorOuText
import Derived.Test.YtoaeggfnlenjkaaGreatDoorShelf
import Derived.Lib.Join
import Derived.Test.YtoaeggfnlenjkaaGreatDoorOuDraw
import Derived.Maps.OwnSet
import Derived.Test.YtoaeggfnlenjkaaGreatDoorOuOwnMath
namespace Go.Proofs.YtoaeggfnlenjkaaGreatDoor.G
open Go.ChangeShapes Go.WideShapes Go.ChangeAt Go.RowKit
set_option linter.unusedVariables false

def qd (s : ByteArray) : ByteArray := ⟨#[34]⟩ ++ s ++ ⟨#[34]⟩
def pr (k t : ByteArray) : ByteArray := qd k ++ ⟨#[58]⟩ ++ t
theorem qd_size (s : ByteArray) : (qd s).size = s.size + 2 := by
  have h1 : (⟨#[34]⟩ : ByteArray).size = 1 := rfl
  unfold qd; rw [ByteArray.size_append, ByteArray.size_append]; omega
theorem pr_size (k t : ByteArray) : (pr k t).size = k.size + t.size + 3 := by
  have h1 : (⟨#[58]⟩ : ByteArray).size = 1 := rfl
  unfold pr; rw [ByteArray.size_append, ByteArray.size_append, qd_size]; omega
theorem bytes_same {a b : ByteArray} (h : a.data.toList = b.data.toList) : a = b := by
  apply ByteArray.ext; exact Array.toList_inj.1 h
theorem impl_quoted (s : ByteArray) (w : World) (hs : s.size ≤ 1073741824) : Calls Tryz.prog 47 #[.string s] w fun e w' => e = .returned (.string (qd s)) ∧ w' = w := by
  have h1 : (⟨#[34]⟩ : ByteArray).size = 1 := rfl
  have n1 : ¬ (9223372036854775807 < (⟨#[34]⟩ : ByteArray).size + s.size) := by omega
  have n1' : ¬ (9223372036854775807 < 1 + s.size) := by omega
  have n2 : ¬ (9223372036854775807 < (⟨#[34]⟩ ++ s : ByteArray).size + (⟨#[34]⟩ : ByteArray).size) := by rw [ByteArray.size_append]; omega
  have n2' : ¬ (9223372036854775807 < (⟨#[34]⟩ ++ s : ByteArray).size + 1) := by rw [ByteArray.size_append]; omega
  clear h1
  go_enter Tryz.func47, Tryz.ntmps47
  go_wp2_with fail
  go_ret
  exact ⟨rfl, rfl⟩
theorem impl_pair (k t : ByteArray) (w : World) (hk : k.size ≤ 1073741824) (ht : t.size ≤ 1073741824) : Calls Tryz.prog 46 #[.string k, .string t] w fun e w' => e = .returned (.string (pr k t)) ∧ w' = w := by
  have h1 : (⟨#[58]⟩ : ByteArray).size = 1 := rfl
  have hq := qd_size k
  have HF : Hid (qd k ++ ⟨#[58]⟩ ++ t = pr k t) := rfl
  have n1 : ¬ (9223372036854775807 < (qd k).size + (⟨#[58]⟩ : ByteArray).size) := by omega
  have n1' : ¬ (9223372036854775807 < (qd k).size + 1) := by omega
  have n2 : ¬ (9223372036854775807 < (qd k ++ ⟨#[58]⟩ : ByteArray).size + t.size) := by rw [ByteArray.size_append]; omega
  clear h1 hq
  go_enter Tryz.func46, Tryz.ntmps46
  go_wp2_with fail
  refine (impl_quoted k _ hk).mono ?_
  rintro e w1 ⟨rfl, hw⟩
  rw [hw]
  go_wp2_with fail
  go_ret
  exact ⟨by rw [← HF.out]; rfl, rfl⟩
/-- Texts joined by commas: the library's way and ours. -/
theorem cj_cons (x : ByteArray) : ∀ (r : List ByteArray) (k : Nat), k ≤ r.length → (cjTo (x :: r) (k + 1)).data.toList = x.data.toList ++ ((r.take k).map fun s => 44 :: s.data.toList).flatten
  | r, 0, _ => by
    show (cjTo (x :: r) 0 ++ (x :: r).getD 0 ⟨#[]⟩ : ByteArray).data.toList = _
    simp [cjTo]
  | r, k + 1, hk => by
    have ih := cj_cons x r k (by omega)
    have hg : (x :: r).getD (k + 1) ⟨#[]⟩ = r[k] := by
      rw [List.getD_eq_getElem?_getD, List.getElem?_cons_succ, List.getElem?_eq_getElem (by omega)]; rfl
    rw [cjTo, if_pos (by omega), hg, List.take_succ_eq_append_getElem (by omega)]
    rw [ByteArray.data_append, ByteArray.data_append, Array.toList_append, Array.toList_append, ih]
    show (_ ++ [44]) ++ r[k].data.toList = _
    simp only [List.map_append, List.flatten_append, List.map_cons, List.map_nil, List.flatten_cons, List.flatten_nil, List.append_nil, List.append_assoc, List.cons_append, List.nil_append]
theorem cj_join (ss : List ByteArray) : (⟨(Lib.join (ss.map (·.data.toList)) [44]).toArray⟩ : ByteArray) = cj ss := by
  apply bytes_same
  cases ss with
  | nil => rfl
  | cons x r =>
    unfold cj
    rw [List.length_cons, cj_cons x r r.length (Nat.le_refl _), List.take_length, List.map_cons, Lib.join_cons]
    simp only [Lib.joinTail, List.map_map]
    simp
    congr 1
theorem join_len (ss : List ByteArray) : (Lib.join (ss.map (·.data.toList)) [44]).length ≤ sumW ss := by
  have h := cj_size ss
  rw [← cj_join] at h
  have e : (⟨(Lib.join (ss.map (·.data.toList)) [44]).toArray⟩ : ByteArray).size = (Lib.join (ss.map (·.data.toList)) [44]).length := by simp [ByteArray.size]
  omega
theorem impl_join (a : Option Addr) (c : Nat) (ss : List ByteArray) (w : World) (hr : KeRow 0 w.heap.size w a ss) (hc : ss.length ≤ c) (hz : sumW ss ≤ 1073741824) :
    Calls Tryz.prog 89 #[.slice a ss.length c, .string ⟨#[44]⟩] w fun e w' => e = .returned (.string (cj ss)) ∧ Below w.heap.size w w' := by
  rcases hr with rfl | ⟨b, o, rfl, _, hb, h3⟩
  · refine (Tryz.strings_Join_none a c ⟨#[44]⟩ w).mono ?_
    rintro e w' ⟨rfl, rfl⟩
    exact ⟨rfl, Below.refl _ _⟩
  · have hl := len_sumW ss
    have hj := join_len ss
    have := Tryz.strings_Join b o c ss ⟨#[44]⟩ w (fun j x hx => by have := h3 j x hx; rwa [Nat.mul_one] at this) hb (by omega) hc (by show (Lib.join _ [44]).length ≤ _; omega)
    refine this.mono ?_
    rintro e w' ⟨rfl, hb'⟩
    refine ⟨?_, hb'⟩
    show Ending.returned (.string ⟨(Lib.join _ [44]).toArray⟩) = _
    rw [cj_join]
def objT (ss : List ByteArray) : ByteArray := ⟨#[123]⟩ ++ cj ss ++ ⟨#[125]⟩
def lisT (ss : List ByteArray) : ByteArray := ⟨#[91]⟩ ++ cj ss ++ ⟨#[93]⟩
theorem impl_object (a : Option Addr) (c : Nat) (ss : List ByteArray) (w : World) (hr : KeRow 0 w.heap.size w a ss) (hc : ss.length ≤ c) (hz : sumW ss ≤ 1073741824) :
    Calls Tryz.prog 45 #[.slice a ss.length c] w fun e w' => e = .returned (.string (objT ss)) ∧ Below w.heap.size w w' := by
  have HR : Hid _ := hr
  have hj := cj_size ss
  have h1 : (⟨#[123]⟩ : ByteArray).size = 1 := rfl
  have n1 : ¬ (9223372036854775807 < (⟨#[123]⟩ : ByteArray).size + (cj ss).size) := by omega
  have n1' : ¬ (9223372036854775807 < 1 + (cj ss).size) := by omega
  have n2' : ¬ (9223372036854775807 < (⟨#[123]⟩ ++ cj ss : ByteArray).size + 1) := by rw [ByteArray.size_append]; omega
  have n2 : ¬ (9223372036854775807 < (⟨#[123]⟩ ++ cj ss : ByteArray).size + (⟨#[125]⟩ : ByteArray).size) := n2'
  clear hr hj h1
  go_enter Tryz.func45, Tryz.ntmps45
  go_wp2_with fail
  refine (impl_join a c ss _ HR.out hc hz).mono ?_
  rintro e w1 ⟨rfl, hb1⟩
  have HB : Hid _ := hb1
  clear hb1
  go_wp2_with fail
  go_ret
  exact ⟨rfl, HB.out⟩
theorem impl_list (a : Option Addr) (c : Nat) (ss : List ByteArray) (w : World) (hr : KeRow 0 w.heap.size w a ss) (hc : ss.length ≤ c) (hz : sumW ss ≤ 1073741824) :
    Calls Tryz.prog 75 #[.slice a ss.length c] w fun e w' => e = .returned (.string (lisT ss)) ∧ Below w.heap.size w w' := by
  have HR : Hid _ := hr
  have hj := cj_size ss
  have h1 : (⟨#[91]⟩ : ByteArray).size = 1 := rfl
  have n1 : ¬ (9223372036854775807 < (⟨#[91]⟩ : ByteArray).size + (cj ss).size) := by omega
  have n1' : ¬ (9223372036854775807 < 1 + (cj ss).size) := by omega
  have n2' : ¬ (9223372036854775807 < (⟨#[91]⟩ ++ cj ss : ByteArray).size + 1) := by rw [ByteArray.size_append]; omega
  have n2 : ¬ (9223372036854775807 < (⟨#[91]⟩ ++ cj ss : ByteArray).size + (⟨#[93]⟩ : ByteArray).size) := n2'
  clear hr hj h1
  go_enter Tryz.func75, Tryz.ntmps75
  go_wp2_with fail
  refine (impl_join a c ss _ HR.out hc hz).mono ?_
  rintro e w1 ⟨rfl, hb1⟩
  have HB : Hid _ := hb1
  clear hb1
  go_wp2_with fail
  go_ret
  exact ⟨rfl, HB.out⟩
end Go.Proofs.YtoaeggfnlenjkaaGreatDoor.G
namespace Go.Proofs.YtoaeggfnlenjkaaGreatDoor.G
open Go.ChangeShapes Go.WideShapes Go.ChangeAt Go.RowKit
set_option linter.unusedVariables false

/-- The library's table of powers, whatever is done above the globals. -/
def Pow (w : World) : Prop := Lib.TabIs Tryz.prog w "internal/strconv.uint64pow10" .u64 Lib.pow10Tab
theorem gPow : ∃ g, Tryz.prog.globalNamed "internal/strconv.uint64pow10" = some g := by
  have h : (Tryz.prog.globalNamed "internal/strconv.uint64pow10").isSome = true := by kernel_rfl
  exact Option.isSome_iff_exists.1 h
theorem Pow.up {w w' : World} (h : Pow w) (hb : Below w.heap.size w w') : Pow w' := by
  obtain ⟨g, hg⟩ := gPow
  unfold Pow Lib.TabIs World.var? at h ⊢
  rw [hg] at h ⊢
  simp only [Option.bind_some] at h ⊢
  have pos : g < w.heap.size := by
    split at h
    · rename_i hh; exact (Array.getElem?_eq_some_iff.1 hh).1
    · cases h
  rw [hb.block g pos]
  exact h
theorem grow_below (w : World) (k : Nat) (os : Array Obj) : Below w.heap.size w (Sort.grow (w.drewN k) os) := by
  refine ⟨rfl, rfl, rfl, ?_, ?_⟩
  · show w.heap.size ≤ ((w.drewN k).heap ++ os).size
    have : (w.drewN k).heap = w.heap := rfl
    rw [this]; simp
  · intro i hi
    show ((w.drewN k).heap ++ os)[i]? = w.heap[i]?
    have : (w.drewN k).heap = w.heap := rfl
    rw [this, Array.getElem?_append_left hi]
theorem itoa_any (n : Int) (w : World) (h0 : -9223372036854775807 ≤ n) (h1 : n ≤ 9223372036854775807) (hp : Pow w) :
    Calls Tryz.prog 74 #[.int .i64 n] w fun e w' => e = .returned (.string ⟨(Lib.itoa n).toArray⟩) ∧ Below w.heap.size w w' := by
  refine (Tryz.strconv_Itoa n (by omega) h1 w hp).mono ?_
  rintro e w1 ⟨rfl, k, os, rfl⟩
  exact ⟨rfl, grow_below w k os⟩
/-- What a value holds, as the program hands it on. -/
def heldV (h : Oh) (sub : Ous) (a1 a2 : Option Addr) (c1 c2 : Nat) : Value :=
  if h.k = 1 then .iface 3 (.int .i64 h.n)
  else if h.k = 2 then .iface 9 (.string h.t)
  else if h.k = 3 then .iface 24 (.slice a2 sub.len c2)
  else if h.k = 4 then .iface 109 (.agg #[.slice a1 h.keys.length c1, .slice a2 sub.len c2])
  else .nilIface
set_option maxHeartbeats 4000000 in
theorem impl_held (h : Oh) (sub : Ous) (a1 a2 : Option Addr) (c1 c2 : Nat) (w : World) :
    Calls Tryz.prog 73 #[.agg #[.int .i64 h.k, .int .i64 h.n, .string h.t, .slice a1 h.keys.length c1, .slice a2 sub.len c2]] w fun e w' => e = .returned (heldV h sub a1 a2 c1 c2) ∧ Below w.heap.size w w' := by
  have B0 : Hid (Below w.heap.size w (w.alloc (.cells #[.int .i64 h.k, .int .i64 h.n, .string h.t, .slice a1 h.keys.length c1, .slice a2 sub.len c2] 26))) := (Below.refl _ _).alloc (Nat.le_refl _) _
  by_cases k1 : h.k = 1
  · have HF : Hid (heldV h sub a1 a2 c1 c2 = .iface 3 (.int .i64 h.n)) := by unfold Hid heldV; rw [if_pos k1]
    have k1' : (h.k == 1) = true := by simp [k1]
    clear k1
    go_enter Tryz.func73, Tryz.ntmps73
    go_wp2_with fail
    go_ret
    exact ⟨by rw [HF.out]; rfl, B0.out⟩
  have k1' : (h.k == 1) = false := beq_eq_false_iff_ne.2 k1
  by_cases k2 : h.k = 2
  · have HF : Hid (heldV h sub a1 a2 c1 c2 = .iface 9 (.string h.t)) := by unfold Hid heldV; rw [if_neg k1, if_pos k2]
    have k2' : (h.k == 2) = true := by simp [k2]
    clear k1 k2
    go_enter Tryz.func73, Tryz.ntmps73
    go_wp2_with fail
    go_ret
    exact ⟨by rw [HF.out]; rfl, B0.out⟩
  have k2' : (h.k == 2) = false := beq_eq_false_iff_ne.2 k2
  by_cases k3 : h.k = 3
  · have HF : Hid (heldV h sub a1 a2 c1 c2 = .iface 24 (.slice a2 sub.len c2)) := by unfold Hid heldV; rw [if_neg k1, if_neg k2, if_pos k3]
    have k3' : (h.k == 3) = true := by simp [k3]
    clear k1 k2 k3
    go_enter Tryz.func73, Tryz.ntmps73
    go_wp2_with fail
    go_ret
    exact ⟨by rw [HF.out]; rfl, B0.out⟩
  have k3' : (h.k == 3) = false := beq_eq_false_iff_ne.2 k3
  by_cases k4 : h.k = 4
  · have HF : Hid (heldV h sub a1 a2 c1 c2 = .iface 109 (.agg #[.slice a1 h.keys.length c1, .slice a2 sub.len c2])) := by unfold Hid heldV; rw [if_neg k1, if_neg k2, if_neg k3, if_pos k4]
    have k4' : (h.k == 4) = true := by simp [k4]
    clear k1 k2 k3 k4
    go_enter Tryz.func73, Tryz.ntmps73
    go_wp2_with fail
    go_ret
    exact ⟨by rw [HF.out]; rfl, B0.out⟩
  have k4' : (h.k == 4) = false := beq_eq_false_iff_ne.2 k4
  have HF : Hid (heldV h sub a1 a2 c1 c2 = .nilIface) := by unfold Hid heldV; rw [if_neg k1, if_neg k2, if_neg k3, if_neg k4]
  clear k1 k2 k3 k4
  go_enter Tryz.func73, Tryz.ntmps73
  go_wp2_with fail
  go_ret
  exact ⟨by rw [HF.out]; rfl, B0.out⟩
theorem info9s : (Tryz.prog.info? 9).map (fun i => (i.zero, i.size, i.bytes)) = some (some (.string ⟨#[]⟩), 1, 16) := by kernel_rfl
def LaidW (cs : Array Value) (ts : List ByteArray) (k : Nat) : Prop := ∀ i t, i < k → ts[i]? = some t → cs[i]? = some (.string t)
theorem LaidW.put {cs : Array Value} {ts : List ByteArray} {k : Nat} {t : ByteArray} (h : LaidW cs ts k) (hk : k < cs.size) (ht : ts[k]? = some t) : LaidW (cs.setIfInBounds k (.string t)) ts (k + 1) := by
  intro i t' hi ht'
  by_cases hik : i = k
  · subst hik
    rw [ht, Option.some.injEq] at ht'
    subst ht'
    simp [hk]
  · rw [Array.getElem?_setIfInBounds_ne (fun e => hik e.symm)]
    exact h i t' (by omega) ht'
theorem LaidW.row {cs : Array Value} {ts : List ByteArray} {B : Nat} {w : World} {e : TypeId} (h : LaidW cs ts ts.length) (hB : w.heap[B]? = some (.cells cs e (0, 0))) : KeRow 0 w.heap.size w (some ⟨B, 0, none⟩) ts := by
  refine .inr ⟨B, 0, rfl, Nat.zero_le _, (Array.getElem?_eq_some_iff.1 hB).1, fun i x hx => ?_⟩
  rw [row_rd hB]
  show cs[0 + i * 1]? = _
  rw [Nat.zero_add, Nat.mul_one]
  exact h i x (List.getElem?_eq_some_iff.1 hx).1 hx
theorem words_len : ∀ (l : Ous) (ob : Bool) (ks : List ByteArray), (wordsO ob ks l).length = l.len
  | .nil, _, _ => rfl
  | .cons h sub rest, ob, ks => by rw [wordsO, List.length_cons, words_len rest]; rfl
/-- The words from the k-th on. -/
def WordsAt (ob : Bool) (ks : List ByteArray) (l : Ous) (k : Nat) (rest : Ous) : Prop := (wordsO ob ks l).drop k = wordsO ob (ks.drop k) rest
theorem WordsAt.next {ob : Bool} {ks : List ByteArray} {l : Ous} {k : Nat} {h : Oh} {sub rest : Ous} (hw : WordsAt ob ks l k (.cons h sub rest)) : (wordsO ob ks l)[k]? = some (keyed ob (ks.getD k ⟨#[]⟩) (outT h sub)) ∧ WordsAt ob ks l (k + 1) rest := by
  unfold WordsAt at hw ⊢
  rw [words_cons] at hw
  constructor
  · have := congrArg List.head? hw
    rw [List.head?_drop] at this
    exact this
  · have := congrArg List.tail hw
    rw [List.tail_drop] at this
    exact this
def TextI (d : Nat) : Prop := ∀ (h : Oh) (sub : Ous) (a1 a2 : Option Addr) (c1 c2 : Nat) (w : World), KeRow 0 w.heap.size w a1 h.keys → OuRow 0 w.heap.size w a2 sub → h.keys.length ≤ c1 → outB d h sub = true → Pow w →
    Calls Tryz.prog 35 #[.agg #[.int .i64 h.k, .int .i64 h.n, .string h.t, .slice a1 h.keys.length c1, .slice a2 sub.len c2]] w fun e w' => e = .returned (.string (outT h sub)) ∧ Below w.heap.size w w'
theorem ok_out {d : Nat} {h : Oh} {sub rest : Ous} (hok : okO d (.cons h sub rest) = true) (hs : (Ous.cons h sub rest).size ≤ 4000) : outB d h sub = true ∧ okO d rest = true ∧ rest.size ≤ 4000 := by
  rw [okO_cons, Bool.and_eq_true] at hok
  simp only [Ous.size] at hs
  refine ⟨?_, hok.2, by omega⟩
  unfold outB; rw [hok.1, decide_eq_true (by omega)]; rfl
set_option maxHeartbeats 8000000 in
set_option maxRecDepth 40000 in
theorem impl_texts (d : Nat) (ih : TextI d) (l : Ous) (a : Option Addr) (c : Nat) (w : World) (hr : OuRow 0 w.heap.size w a l) (hok : okO d l = true) (hs : l.size ≤ 4000) (hp : Pow w) :
    Calls Tryz.prog 76 #[.slice a l.len c] w fun e w' => ∃ a', e = .returned (.slice a' l.len l.len) ∧ KeRow 0 w'.heap.size w' a' (wordsO false [] l) ∧ Below w.heap.size w w' := by
  have hl : l.len ≤ 4000 := Nat.le_trans l.len_le_size hs
  have HR : Hid (OuFrom 0 w.heap.size w a 0 l) := hr.from_
  have IH : Hid (TextI d) := ih
  have HP : Hid (∀ W, Below w.heap.size w W → Pow W) := fun W h => hp.up h
  have HOK : Hid (okO d l = true ∧ l.size ≤ 4000) := ⟨hok, hs⟩
  have HWL : Hid ((wordsO false [] l).length = l.len) := words_len _ _ _
  clear hr ih hp hok hs
  obtain ⟨i9, hi, hz, hsz, hby⟩ := info_parts info9s
  have hmk := run_make (P := Tryz.prog) w 23 9 i9 _ Tryz.underlying23 hi hz .i64 .i64 (l.len : Int) (l.len : Int) (by omega) (by omega) (by rw [hby]; omega) (by omega)
  rw [hsz, Int.toNat_natCast] at hmk
  clear hi hz hsz hby
  have hs0 := size_madeCells (Value.string ⟨#[]⟩).cells (l.len * 1)
  generalize madeCells (Value.string ⟨#[]⟩).cells (l.len * 1) = cs0 at *
  go_enter Tryz.func76, Tryz.ntmps76
  go_wp2_with fail
  go_loopw [11] (fun i w' => ∃ (k : Nat) (cs : Array Value) (rest : Ous), k + rest.len = l.len ∧ i = .int .i64 k ∧ Hid (Below w.heap.size w w') ∧ Hid (w'.heap[w.heap.size]? = some (.cells cs 9 (0, 0))) ∧ cs.size = l.len ∧ Hid (LaidW cs (wordsO false [] l) k) ∧ Hid (OuFrom 0 w.heap.size w a k rest) ∧ Hid (okO d rest = true ∧ rest.size ≤ 4000) ∧ Hid (WordsAt false [] l k rest)) (fun i _ => l.len - (intOf i).toNat)
  case atStart => exact ⟨0, cs0, l, by omega, rfl, (Below.refl _ _).alloc (Nat.le_refl _) _, heap_alloc_new _ _, by omega, fun i t h => by omega, HR, HOK, rfl⟩
  case round =>
    obtain ⟨wo, rfl⟩ : ∃ x, x = wr := ⟨_, rfl⟩
    obtain ⟨k, cs, rest, hk, rfl, HB, HH, hcs, HL, HF, HO, HW⟩ := hrel
    clear hmk hs0
    have hbz := HB.out.size
    cases rest with
    | nil =>
      simp only [Ous.len, Nat.add_zero] at hk
      have HFIN : Hid (KeRow 0 wo.heap.size wo (some ⟨w.heap.size, 0, none⟩) (wordsO false [] l)) := by
        have := HL.out
        rw [hk, ← HWL.out] at this
        exact this.row HH.out
      have hnl : ¬ (k : Int) < l.len := by omega
      clear hk
      go_wp2_with fail
      go_ret
      exact ⟨_, rfl, HFIN.out, HB.out⟩
    | cons h sub rest =>
      have hlt : (k : Int) < l.len := by simp only [Ous.len] at hk; omega
      obtain ⟨b, o, a1, c1, a2, c2, ha, _, hbl, d0, d1, d2, d3, d4, hc, p1, p2, _⟩ := OuFrom.step (OuFrom.keep HF.out (agree HB.out (Nat.le_refl _)))
      have HF2 : Hid (OuFrom 0 w.heap.size w a (k + 1) rest) := by
        obtain ⟨_, _, _, _, _, _, _, _, _, _, _, _, _, _, _, _, _, rf9⟩ := OuFrom.step HF.out
        exact rf9
      obtain ⟨o1, o2, o3⟩ := ok_out HO.out.1 HO.out.2
      have HO1 : Hid _ := o1
      have HO2 : Hid (okO d rest = true ∧ rest.size ≤ 4000) := ⟨o2, o3⟩
      obtain ⟨n1, n2⟩ := HW.out.next
      have HN1 : Hid ((wordsO false [] l)[k]? = some (outT h sub)) := by unfold Hid; simpa [keyed] using n1
      have HN2 : Hid _ := n2
      have hNw : w.heap.size < wo.heap.size := (Array.getElem?_eq_some_iff.1 HH.out).1
      have R1 : Hid (KeRow 0 wo.heap.size wo a1 h.keys ∧ OuRow 0 wo.heap.size wo a2 sub) := ⟨KeRow.wide p1 (Nat.le_refl _) hbz, OuRow.wide p2 (Nat.le_refl _) hbz⟩
      subst ha
      clear o1 o2 o3 n1 n2 p1 p2 HW HF HO
      obtain ⟨U, hU⟩ : ∃ X, X = wo.alloc (.cells #[.int .i64 h.k, .int .i64 h.n, .string h.t, .slice a1 h.keys.length c1, .slice a2 sub.len c2] 26) := ⟨_, rfl⟩
      have BU : Below wo.heap.size wo U := by rw [hU]; exact (Below.refl _ _).alloc (Nat.le_refl _) _
      have c0 : U.heap[wo.heap.size]? = some (.cells #[.int .i64 h.k, .int .i64 h.n, .string h.t, .slice a1 h.keys.length c1, .slice a2 sub.len c2] 26 (0, 0)) := by rw [hU]; exact heap_alloc_new _ _
      have x0 := fun o => row_cell c0 o
      have HBU : Hid _ := BU
      clear BU c0
      go_upto_region 5 with fail
      rw [← hU]
      clear hU d0 d1 d2 d3 d4
      go_wp2_with fail
      refine (IH.out h sub a1 a2 c1 c2 U (KeRow.up R1.out.1 HBU.out) (OuRow.up R1.out.2 HBU.out) hc HO1.out (HP.out _ (HB.out.trans (HBU.out.mono hbz)))).mono ?_
      rintro e w1 ⟨rfl, hb1⟩
      have HB1 : Hid (Below wo.heap.size wo w1) := HBU.out.trans (hb1.mono HBU.out.size)
      have HH1 : Hid (w1.heap[w.heap.size]? = some (.cells cs 9 (0, 0))) := (HB1.out.block _ hNw).trans HH.out
      have HBW : Hid (Below w.heap.size w w1) := HB.out.trans (HB1.out.mono hbz)
      obtain ⟨v0, hv0⟩ : ∃ v, w1.cell? ⟨w.heap.size, k, none⟩ = some v := ⟨_, (row_cell HH1.out _).trans (Array.getElem?_eq_getElem (show k < cs.size by omega))⟩
      have hf0 := row_frozen HH1.out k
      clear hb1 x0
      go_wp2_with fail
      exact ⟨⟨k + 1, _, rest, by simp only [Ous.len] at hk; omega, by first | rfl | go_num, HBW.out.setCell (Nat.le_refl _) _, row_set HH1.out _ _, by simp [hcs], LaidW.put HL.out (by omega) HN1.out, HF2, HO2, HN2⟩, by simp [intOf]; omega⟩
end Go.Proofs.YtoaeggfnlenjkaaGreatDoor.G
namespace Go.Proofs.YtoaeggfnlenjkaaGreatDoor.G
open Go.ChangeShapes Go.WideShapes Go.ChangeAt Go.RowKit
set_option linter.unusedVariables false

theorem keyed_pr (k s : ByteArray) : keyed true k s = pr k s := by
  unfold keyed pr qd
  rw [if_pos rfl]
  apply bytes_same
  simp
set_option maxHeartbeats 8000000 in
set_option maxRecDepth 40000 in
theorem impl_pairs (d : Nat) (ih : TextI d) (l : Ous) (ks : List ByteArray) (a1 a : Option Addr) (c1 c : Nat) (w : World) (hk : KeRow 0 w.heap.size w a1 ks) (hr : OuRow 0 w.heap.size w a l) (hkl : ks.length = l.len) (hkz : ∀ k ∈ ks, k.size ≤ 40) (hok : okO d l = true) (hs : l.size ≤ 4000) (hp : Pow w) :
    Calls Tryz.prog 77 #[.agg #[.slice a1 ks.length c1, .slice a l.len c]] w fun e w' => ∃ a', e = .returned (.slice a' l.len l.len) ∧ KeRow 0 w'.heap.size w' a' (wordsO true ks l) ∧ Below w.heap.size w w' := by
  have hl : l.len ≤ 4000 := Nat.le_trans l.len_le_size hs
  have HKL : Hid (ks.length = l.len) := hkl
  have HKZ : Hid _ := hkz
  have IH : Hid (TextI d) := ih
  obtain ⟨V, hV⟩ : ∃ V, V = w.alloc (.cells #[.slice a1 ks.length c1, .slice a l.len c] 109) := ⟨_, rfl⟩
  have BV : Below w.heap.size w V := by rw [hV]; exact (Below.refl _ _).alloc (Nat.le_refl _) _
  have hc0 : V.heap[w.heap.size]? = some (.cells #[.slice a1 ks.length c1, .slice a l.len c] 109 (0, 0)) := by rw [hV]; exact heap_alloc_new _ _
  have y0 := fun o => row_cell hc0 o
  have zV : w.heap.size < V.heap.size := (Array.getElem?_eq_some_iff.1 hc0).1
  have KV : Hid (∀ W, Below V.heap.size V W → W.heap[w.heap.size]? = some (.cells #[.slice a1 ks.length c1, .slice a l.len c] 109 (0, 0)) ∧ KeRow 0 W.heap.size W a1 ks ∧ Pow W ∧ Below w.heap.size w W) := fun W hW =>
    have hb := BV.trans (hW.mono BV.size)
    ⟨(hW.block _ zV).trans hc0, KeRow.up hk hb, hp.up hb, hb⟩
  have HR : Hid (OuFrom 0 V.heap.size V a 0 l) := (OuRow.up hr BV).from_
  have HOK : Hid (okO d l = true ∧ l.size ≤ 4000) := ⟨hok, hs⟩
  have HWL : Hid ((wordsO true ks l).length = l.len) := words_len _ _ _
  clear hk hr ih hp hok hs hkl hkz hc0 BV
  obtain ⟨i9, hi, hz, hsz, hby⟩ := info_parts info9s
  have hmk := run_make (P := Tryz.prog) V 23 9 i9 _ Tryz.underlying23 hi hz .i64 .i64 (l.len : Int) (l.len : Int) (by omega) (by omega) (by rw [hby]; omega) (by omega)
  rw [hsz, Int.toNat_natCast] at hmk
  clear hi hz hsz hby
  have hs0 := size_madeCells (Value.string ⟨#[]⟩).cells (l.len * 1)
  generalize madeCells (Value.string ⟨#[]⟩).cells (l.len * 1) = cs0 at *
  have y1 := fun ob o => (((Below.refl V.heap.size V).alloc (Nat.le_refl _) ob).cell (p := ⟨w.heap.size, o, none⟩) zV).trans (y0 o)
  go_enter Tryz.func77, Tryz.ntmps77
  go_upto_region 1 with fail
  rw [← hV]
  clear hV
  go_wp2_with fail
  go_loopw [13] (fun i w' => ∃ (k : Nat) (cs : Array Value) (rest : Ous), k + rest.len = l.len ∧ i = .int .i64 k ∧ Hid (Below V.heap.size V w') ∧ Hid (w'.heap[V.heap.size]? = some (.cells cs 9 (0, 0))) ∧ cs.size = l.len ∧ Hid (LaidW cs (wordsO true ks l) k) ∧ Hid (OuFrom 0 V.heap.size V a k rest) ∧ Hid (okO d rest = true ∧ rest.size ≤ 4000) ∧ Hid (WordsAt true ks l k rest)) (fun i _ => l.len - (intOf i).toNat)
  case atStart => exact ⟨0, cs0, l, by omega, rfl, (Below.refl _ _).alloc (Nat.le_refl _) _, heap_alloc_new _ _, by omega, fun i t h => by omega, HR, HOK, rfl⟩
  case round =>
    obtain ⟨wo, rfl⟩ : ∃ x, x = wr := ⟨_, rfl⟩
    obtain ⟨k, cs, rest, hk, rfl, HB, HH, hcs, HL, HF, HO, HW⟩ := hrel
    clear hmk hs0 y0 y1
    have hbz := HB.out.size
    obtain ⟨k0, k1, k2, k3⟩ := KV.out _ HB.out
    have HK1 : Hid _ := k1
    have HBW : Hid _ := k3
    cases rest with
    | nil =>
      simp only [Ous.len, Nat.add_zero] at hk
      have HFIN : Hid (KeRow 0 wo.heap.size wo (some ⟨V.heap.size, 0, none⟩) (wordsO true ks l)) := by
        have := HL.out
        rw [hk, ← HWL.out] at this
        exact this.row HH.out
      have hnl : ¬ (k : Int) < l.len := by omega
      clear hk k0 k1 k2 k3
      go_wp2_with fail
      go_ret
      exact ⟨_, rfl, HFIN.out, HBW.out⟩
    | cons h sub rest =>
      have hlt : (k : Int) < l.len := by simp only [Ous.len] at hk; omega
      have hltN : k < ks.length := by have := HKL.out; omega
      have hltK : (k : Int) < ks.length := by omega
      obtain ⟨b, o, a1', c1', a2', c2', ha, _, hbl, d0, d1, d2, d3, d4, hc, p1, p2, _⟩ := OuFrom.step (OuFrom.keep HF.out (agree HB.out (Nat.le_refl _)))
      have HF2 : Hid (OuFrom 0 V.heap.size V a (k + 1) rest) := by
        obtain ⟨_, _, _, _, _, _, _, _, _, _, _, _, _, _, _, _, _, rf9⟩ := OuFrom.step HF.out
        exact rf9
      obtain ⟨o1, o2, o3⟩ := ok_out HO.out.1 HO.out.2
      have HO1 : Hid _ := o1
      have HO2 : Hid (okO d rest = true ∧ rest.size ≤ 4000) := ⟨o2, o3⟩
      obtain ⟨n1, n2⟩ := HW.out.next
      have HN1 : Hid ((wordsO true ks l)[k]? = some (pr ks[k] (outT h sub))) := by
        unfold Hid
        rw [n1, keyed_pr, List.getD_eq_getElem?_getD, List.getElem?_eq_getElem hltN]; rfl
      have HN2 : Hid _ := n2
      have hNw : V.heap.size < wo.heap.size := (Array.getElem?_eq_some_iff.1 HH.out).1
      have R1 : Hid (KeRow 0 wo.heap.size wo a1' h.keys ∧ OuRow 0 wo.heap.size wo a2' sub) := ⟨KeRow.wide p1 (Nat.le_refl _) hbz, OuRow.wide p2 (Nat.le_refl _) hbz⟩
      obtain ⟨bk, ok, hak, _, hbk, ck⟩ := KeRow.cells HK1.out k hltN
      have HZ : Hid (ks[k].size ≤ 40) := HKZ.out _ (List.getElem_mem hltN)
      have HTZ : Hid ((outT h sub).size ≤ 480042) := outT_size o1
      subst ha hak
      clear o1 o2 o3 n1 n2 p1 p2 HW HF HO k1 k2 k3
      obtain ⟨U, hU⟩ : ∃ X, X = wo.alloc (.cells #[.int .i64 h.k, .int .i64 h.n, .string h.t, .slice a1' h.keys.length c1', .slice a2' sub.len c2'] 26) := ⟨_, rfl⟩
      have BU : Below wo.heap.size wo U := by rw [hU]; exact (Below.refl _ _).alloc (Nat.le_refl _) _
      have c0 : U.heap[wo.heap.size]? = some (.cells #[.int .i64 h.k, .int .i64 h.n, .string h.t, .slice a1' h.keys.length c1', .slice a2' sub.len c2'] 26 (0, 0)) := by rw [hU]; exact heap_alloc_new _ _
      have zU : wo.heap.size < U.heap.size := (Array.getElem?_eq_some_iff.1 c0).1
      have KS : Hid (∀ W, Below U.heap.size U W → (∀ o, W.cell? ⟨wo.heap.size, o, none⟩ = (#[.int .i64 h.k, .int .i64 h.n, .string h.t, .slice a1' h.keys.length c1', .slice a2' sub.len c2'] : Array Value)[o]?) ∧ (∀ q, W.cell? ⟨w.heap.size, q, none⟩ = (#[.slice (some ⟨bk, ok, none⟩) ks.length c1, .slice (some ⟨b, o, none⟩) l.len c] : Array Value)[q]?) ∧ W.cell? ⟨bk, ok + k, none⟩ = some (.string ks[k]) ∧ W.heap[V.heap.size]? = some (.cells cs 9 (0, 0)) ∧ Below wo.heap.size wo W) := fun W hW =>
        have hb := BU.trans (hW.mono BU.size)
        ⟨fun o => row_cell ((hW.block _ zU).trans c0) o, fun q => row_cell ((hb.block _ (by omega)).trans k0) q, (hb.cell (p := ⟨bk, ok + k, none⟩) hbk).trans ck, (hb.block _ hNw).trans HH.out, hb⟩
      go_upto_region 5 with fail
      rw [← hU]
      clear hU d0 d1 d2 d3 d4 c0 k0 HH ck
      refine region_rel (n := 11) (by kernel_rfl) (by kernel_rfl) (by kernel_rfl) (fun u' => ⟨#[.agg #[.slice (some ⟨bk, ok, none⟩) ks.length c1, .slice (some ⟨b, o, none⟩) l.len c], .pointer (some ⟨w.heap.size, 0, none⟩), .slice none 0 0, .slice (some ⟨V.heap.size, 0, none⟩) l.len l.len, .int .i64 (k : Int), .pointer (some ⟨wo.heap.size, 0, none⟩), .pointer (some ⟨w.heap.size, 1, none⟩), .slice (some ⟨b, o, none⟩) l.len c, .int .i64 (l.len : Int), .slice (some ⟨V.heap.size, 0, none⟩) l.len l.len, .pointer (some ⟨w.heap.size, 1, none⟩), .slice (some ⟨b, o, none⟩) l.len c, .int .i64 (l.len : Int), .int .i64 (k : Int), .bool true, .int .i64 (k : Int), .pointer (some ⟨b, o + k * 5, none⟩), .agg #[.int .i64 h.k, .int .i64 h.n, .string h.t, .slice a1' h.keys.length c1', .slice a2' sub.len c2'], u' 18, u' 19, u' 20, u' 21, u' 22, u' 23, u' 24, u' 25, u' 26, u' 27, u' 28, u29, undef], []⟩) (fun i => match i with | 18 => u18 | 19 => u19 | 20 => u20 | 21 => u21 | 22 => u22 | 23 => u23 | 24 => u24 | 25 => u25 | 26 => u26 | 27 => u27 | 28 => u28 | _ => undef) (fun i => i + 18) (fun i j _ _ h => by omega) (fun i v w2 => match i with | 0 => v = .slice (some ⟨V.heap.size, 0, none⟩) l.len l.len | 1 => v = .int .i64 (k : Int) | 2 => v = .pointer (some ⟨w.heap.size, 0, none⟩) | 3 => v = .slice (some ⟨bk, ok, none⟩) ks.length c1 | 4 => v = .int .i64 (k : Int) | 5 => v = .pointer (some ⟨bk, ok + k, none⟩) | 6 => v = .string ks[k] | 7 => v = .agg #[.int .i64 h.k, .int .i64 h.n, .string h.t, .slice a1' h.keys.length c1', .slice a2' sub.len c2'] | 8 => v = .string (outT h sub) | 9 => v = .string (pr ks[k] (outT h sub)) | 10 => v = .pointer (some ⟨V.heap.size, k, none⟩) | _ => True) (fun _ _ => True) ?up trivial ?step ?last
      case up =>
        intro i v w2 w3 hv hbb
        split at hv <;> exact hv
      case step =>
        intro u' w2 i hi hbw _ hdep
        obtain ⟨s1, s2, s3, s4, s5⟩ := KS.out _ hbw
        have S5 : Hid _ := s5
        have hcase : i = 0 ∨ i = 1 ∨ i = 2 ∨ i = 3 ∨ i = 4 ∨ i = 5 ∨ i = 6 ∨ i = 7 ∨ i = 8 ∨ i = 9 ∨ i = 10 := by omega
        clear hi hbw s4 s5
        rcases hcase with rfl | rfl | rfl | rfl | rfl | rfl | rfl | rfl | rfl | rfl | rfl
        · refine wpOp_step rfl (fun K hK => ?_)
          clear hdep
          go_simp
          exact hK _ _ ⟨_, rfl, Below.refl _ _, rfl, trivial⟩
        · refine wpOp_step rfl (fun K hK => ?_)
          clear hdep
          go_simp
          exact hK _ _ ⟨_, rfl, Below.refl _ _, rfl, trivial⟩
        · refine wpOp_step rfl (fun K hK => ?_)
          clear hdep
          go_simp
          exact hK _ _ ⟨_, rfl, Below.refl _ _, rfl, trivial⟩
        · have d2 : u' 20 = .pointer (some ⟨w.heap.size, 0, none⟩) := hdep _ rfl ⟨2, .data⟩ (by simp) rfl
          refine wpOp_step rfl (fun K hK => ?_)
          clear hdep
          go_simp
          exact hK _ _ ⟨_, by simp [upd, d2], Below.refl _ _, rfl, trivial⟩
        · refine wpOp_step rfl (fun K hK => ?_)
          clear hdep
          go_simp
          exact hK _ _ ⟨_, rfl, Below.refl _ _, rfl, trivial⟩
        · have d3 : u' 21 = .slice (some ⟨bk, ok, none⟩) ks.length c1 := hdep _ rfl ⟨3, .data⟩ (by simp) rfl
          have d4 : u' 22 = .int .i64 (k : Int) := hdep _ rfl ⟨4, .data⟩ (by simp) rfl
          refine wpOp_step rfl (fun K hK => ?_)
          clear hdep
          go_simp
          exact hK _ _ ⟨_, by simp [upd, d3, d4], Below.refl _ _, rfl, trivial⟩
        · have d5 : u' 23 = .pointer (some ⟨bk, ok + k, none⟩) := hdep _ rfl ⟨5, .data⟩ (by simp) rfl
          refine wpOp_step rfl (fun K hK => ?_)
          clear hdep
          go_simp
          exact hK _ _ ⟨_, by simp [upd, d5], Below.refl _ _, rfl, trivial⟩
        · refine wpOp_step rfl (fun K hK => ?_)
          clear hdep
          go_simp
          exact hK _ _ ⟨_, rfl, Below.refl _ _, rfl, trivial⟩
        · have d7 : u' 25 = .agg #[.int .i64 h.k, .int .i64 h.n, .string h.t, .slice a1' h.keys.length c1', .slice a2' sub.len c2'] := hdep _ rfl ⟨7, .data⟩ (by simp) rfl
          refine wpOp_step rfl (fun K hK => ?_)
          clear hdep
          go_simp
          refine (IH.out h sub a1' a2' c1' c2' w2 (KeRow.up R1.out.1 S5.out) (OuRow.up R1.out.2 S5.out) hc HO1.out (KV.out _ (HB.out.trans (S5.out.mono hbz))).2.2.1).mono ?_
          rintro e w8 ⟨rfl, hb8⟩
          exact hK _ _ ⟨_, by simp [upd, d7], hb8, rfl, trivial⟩
        · have d6 : u' 24 = .string ks[k] := hdep _ rfl ⟨6, .data⟩ (by simp) rfl
          have d8 : u' 26 = .string (outT h sub) := hdep _ rfl ⟨8, .data⟩ (by simp) rfl
          refine wpOp_step rfl (fun K hK => ?_)
          clear hdep
          go_simp
          refine (impl_pair ks[k] (outT h sub) w2 (by have := HZ.out; omega) (by have := HTZ.out; omega)).mono ?_
          rintro e w8 ⟨rfl, hw8⟩
          rw [hw8]
          exact hK _ _ ⟨_, by simp [upd, d6, d8], Below.refl _ _, rfl, trivial⟩
        · have d0 : u' 18 = .slice (some ⟨V.heap.size, 0, none⟩) l.len l.len := hdep _ rfl ⟨0, .data⟩ (by simp) rfl
          have d1 : u' 19 = .int .i64 (k : Int) := hdep _ rfl ⟨1, .data⟩ (by simp) rfl
          refine wpOp_step rfl (fun K hK => ?_)
          clear hdep
          go_simp
          exact hK _ _ ⟨_, by simp [upd, d0, d1], Below.refl _ _, rfl, trivial⟩
      case last =>
        intro u' w2 hbw _ hp2
        have d9 : u' 27 = .string (pr ks[k] (outT h sub)) := hp2 9 (by omega)
        have d10 : u' 28 = .pointer (some ⟨V.heap.size, k, none⟩) := hp2 10 (by omega)
        clear hp2
        obtain ⟨s1, s2, s3, s4, s5⟩ := KS.out _ hbw
        obtain ⟨v0, hv0⟩ : ∃ v, w2.cell? ⟨V.heap.size, k, none⟩ = some v := ⟨_, (row_cell s4 _).trans (Array.getElem?_eq_getElem (show k < cs.size by omega))⟩
        have hf0 := row_frozen s4 k
        have HH3 : Hid _ := s4
        have HBV : Hid (Below V.heap.size V w2) := HB.out.trans (s5.mono hbz)
        clear s1 s2 s3 s4 s5 hbw
        refine wpOp_step rfl (fun K hK => ?_)
        go_simp
        refine hK _ _ ?_
        clear hK K
        go_wp2_with fail
        exact ⟨⟨k + 1, _, rest, by simp only [Ous.len] at hk; omega, by first | rfl | go_num, HBV.out.setCell (Nat.le_refl _) _, row_set HH3.out _ _, by simp [hcs], LaidW.put HL.out (by omega) HN1.out, HF2, HO2, HN2⟩, by simp [intOf]; omega⟩
end Go.Proofs.YtoaeggfnlenjkaaGreatDoor.G
