/- What is a right value, selection, definition, document; and counts of them. -/
import Derived.Test.YtnkaoeijcdchiaaGreatDoorInts
import Derived.Test.YtnkaoeijcdchiaaGreatDoorDigitsD
import Derived.Deep.AppendLies
import Derived.Test.YtnkaoeijcdchiaaGreatDoorRunRows
import Derived.Below
import Derived.Deep.Slices
import Derived.Deep.Strs
import Derived.Lib.SmallJoins
namespace Go.Proofs.YtnkaoeijcdchiaaGreatDoor.G
open Go.ChangeShapes Go.WideShapes Go.ChangeAt Go.RowKit
set_option linter.unusedVariables false

/-- The first k texts, a comma between each two. -/
def cjTo (ss : List ByteArray) : Nat → ByteArray
  | 0 => ⟨#[]⟩
  | k + 1 => (if 0 < k then cjTo ss k ++ ⟨#[44]⟩ else cjTo ss k) ++ ss.getD k ⟨#[]⟩
def cj (ss : List ByteArray) : ByteArray := cjTo ss ss.length
def keyed (ob : Bool) (k s : ByteArray) : ByteArray := if ob = true then ⟨#[34]⟩ ++ k ++ ⟨#[34, 58]⟩ ++ s else s
def endsA (h : Oh) : ByteArray := if h.k = 4 then ⟨#[123]⟩ else ⟨#[91]⟩
def endsB (h : Oh) : ByteArray := if h.k = 4 then ⟨#[125]⟩ else ⟨#[93]⟩
def valT (h : Oh) (ws : List ByteArray) : ByteArray :=
  if h.k = 0 then ⟨#[110, 117, 108, 108]⟩
  else if h.k = 1 then ⟨(Lib.itoa h.n).toArray⟩
  else if h.k = 2 then ⟨#[34]⟩ ++ h.t ++ ⟨#[34]⟩
  else endsA h ++ cj ws ++ endsB h
def wordsO : Bool → List ByteArray → Ous → List ByteArray
  | _, _, .nil => []
  | ob, ks, .cons h sub rest => keyed ob (ks.headD ⟨#[]⟩) (valT h (wordsO (h.k == 4) h.keys sub)) :: wordsO ob ks.tail rest
def outT (h : Oh) (sub : Ous) : ByteArray := valT h (wordsO (h.k == 4) h.keys sub)
/-- The bytes of texts and a comma each. -/
def sumW (ss : List ByteArray) : Nat := (ss.map fun s => s.size + 1).sum
theorem sumW_nil : sumW [] = 0 := rfl
theorem sumW_cons (s : ByteArray) (ss : List ByteArray) : sumW (s :: ss) = s.size + 1 + sumW ss := by simp [sumW]
theorem sumW_app (a b : List ByteArray) : sumW (a ++ b) = sumW a + sumW b := by simp [sumW, List.sum_append]
theorem mem_sumW {s : ByteArray} : ∀ {ss : List ByteArray}, s ∈ ss → s.size + 1 ≤ sumW ss
  | [], h => by cases h
  | x :: ss, h => by
    rw [sumW_cons]
    rcases List.mem_cons.1 h with rfl | h
    · omega
    · have := mem_sumW h; omega
theorem len_sumW : ∀ ss : List ByteArray, ss.length ≤ sumW ss
  | [] => Nat.zero_le _
  | x :: ss => by rw [sumW_cons, List.length_cons]; have := len_sumW ss; omega
theorem cjTo_size {ss : List ByteArray} : ∀ k, k ≤ ss.length → (cjTo ss k).size ≤ sumW (ss.take k)
  | 0, _ => Nat.le_refl _
  | k + 1, hk => by
    have ih := cjTo_size (ss := ss) k (by omega)
    have hg : ss.getD k ⟨#[]⟩ = ss[k] := by rw [List.getD_eq_getElem?_getD, List.getElem?_eq_getElem (by omega)]; rfl
    have h1 : (⟨#[44]⟩ : ByteArray).size = 1 := rfl
    rw [cjTo, hg, List.take_succ_eq_append_getElem (by omega), sumW_app, sumW_cons, sumW_nil]
    split
    · rw [ByteArray.size_append, ByteArray.size_append]; omega
    · rw [ByteArray.size_append]; omega
theorem cj_size (ss : List ByteArray) : (cj ss).size ≤ sumW ss := by
  have := cjTo_size (ss := ss) ss.length (Nat.le_refl _)
  rw [List.take_length] at this; exact this
theorem name_size {s : ByteArray} (h : nameB s = true) : s.size ≤ 40 := by
  simp only [nameB, Bool.and_eq_true, decide_eq_true_eq] at h; exact h.1.1.2
theorem itoa_size {n : Int} (h : intO n = true) : (⟨(Lib.itoa n).toArray⟩ : ByteArray).size ≤ 21 := by
  simp only [intO, decide_eq_true_eq] at h
  unfold Lib.itoa
  have e : ∀ l : List UInt8, (⟨l.toArray⟩ : ByteArray).size = l.length := fun l => by simp [ByteArray.size]
  rw [e]
  have := Lib.nDigits_le20 n.natAbs (by omega)
  rw [← Lib.decDigits_length] at this
  split
  · simp; omega
  · have h2 : n.natAbs = n.toNat := by omega
    rw [h2] at this; omega
theorem keys_size {ks : List ByteArray} (h : keysB ks = true) : ∀ k ∈ ks, k.size ≤ 40 := fun k hk => by
  obtain ⟨i, hi, rfl⟩ := List.getElem_of_mem hk
  have := keysB_at h hi
  rw [keyB_eq hi, Bool.and_eq_true] at this
  exact name_size this.1
theorem keyed_size (ob : Bool) (k s : ByteArray) : (keyed ob k s).size ≤ k.size + 3 + s.size := by
  have h1 : (⟨#[34]⟩ : ByteArray).size = 1 := rfl
  have h2 : (⟨#[34, 58]⟩ : ByteArray).size = 2 := rfl
  unfold keyed
  split
  · rw [ByteArray.size_append, ByteArray.size_append, ByteArray.size_append]; omega
  · omega
theorem endsA_size (h : Oh) : (endsA h).size = 1 := by unfold endsA; split <;> rfl
theorem endsB_size (h : Oh) : (endsB h).size = 1 := by unfold endsB; split <;> rfl
theorem valT_size {h : Oh} {sub : Ous} {ws : List ByteArray} (hh : headB h sub = true) : (valT h ws).size ≤ 42 + sumW ws := by
  have h1 : (⟨#[34]⟩ : ByteArray).size = 1 := rfl
  have h4 : (⟨#[110, 117, 108, 108]⟩ : ByteArray).size = 4 := rfl
  unfold valT
  unfold headB at hh
  by_cases k0 : h.k = 0
  · rw [if_pos k0]; omega
  rw [if_neg k0] at hh ⊢
  by_cases k1 : h.k = 1
  · rw [if_pos k1] at hh ⊢
    simp only [Bool.and_eq_true] at hh
    have := itoa_size hh.1.2
    omega
  rw [if_neg k1] at hh ⊢
  by_cases k2 : h.k = 2
  · rw [if_pos k2] at hh ⊢
    simp only [Bool.and_eq_true] at hh
    have := name_size hh.2
    rw [ByteArray.size_append, ByteArray.size_append]; omega
  · rw [if_neg k2]
    have := cj_size ws
    rw [ByteArray.size_append, ByteArray.size_append, endsA_size, endsB_size]; omega
theorem head_keys {h : Oh} {sub : Ous} (hh : headB h sub = true) (hk : (h.k == 4) = true) : ∀ k ∈ h.keys, k.size ≤ 40 := by
  have e : h.k = 4 := by simpa using hk
  have := head_group (h := h) (sub := sub) (by omega)
  rw [hh, e] at this
  simp at this
  exact keys_size this.2
theorem words_size : ∀ (l : Ous) (d : Nat) (ob : Bool) (ks : List ByteArray), okO d l = true → (ob = true → ∀ k ∈ ks, k.size ≤ 40) → sumW (wordsO ob ks l) ≤ 120 * l.size
  | .nil, d, ob, ks, _, _ => Nat.zero_le _
  | .cons h sub rest, d, ob, ks, hok, hks => by
    rw [okO_cons, Bool.and_eq_true] at hok
    obtain ⟨h1, h2⟩ := hok
    simp only [oneO, Bool.and_eq_true] at h1
    have ih1 := words_size sub (d - 1) (h.k == 4) h.keys h1.2 (fun e => head_keys h1.1.2 e)
    have ih2 := words_size rest d ob ks.tail h2 (fun e k hk => hks e k (List.mem_of_mem_tail hk))
    have hv := valT_size (ws := wordsO (h.k == 4) h.keys sub) h1.1.2
    rw [wordsO, sumW_cons]
    have hw : (keyed ob (ks.headD ⟨#[]⟩) (valT h (wordsO (h.k == 4) h.keys sub))).size ≤ 43 + (valT h (wordsO (h.k == 4) h.keys sub)).size := by
      cases ob
      · simp [keyed]
      · have hkz : (ks.headD ⟨#[]⟩).size ≤ 40 := by
          cases ks with
          | nil => exact Nat.zero_le _
          | cons x ks => exact hks rfl x (by simp)
        have := keyed_size true (ks.headD ⟨#[]⟩) (valT h (wordsO (h.k == 4) h.keys sub))
        omega
    simp only [Ous.size]
    omega
theorem outT_size {d : Nat} {h : Oh} {sub : Ous} (ho : outB d h sub = true) : (outT h sub).size ≤ 480042 := by
  obtain ⟨_, h1, h2, h3⟩ := outB_all ho
  have := valT_size (ws := wordsO (h.k == 4) h.keys sub) h1
  have := words_size sub (d - 1) (h.k == 4) h.keys h2 (fun e => head_keys h1 e)
  unfold outT
  omega
/-- A row of texts that may grow. -/
def kV (l : List ByteArray) : List Value := l.map Value.string
theorem kV_len (l : List ByteArray) : (kV l).length = l.length := by simp [kV]
theorem kV_row {w : World} {base : Nat} {v : Value} {l : List ByteArray} (h : w.ownsRow base 9 1 v l.length (kV l)) : ∃ a c, v = .slice a l.length c ∧ KeRow 0 w.heap.size w a l := by
  rcases h.2 with ⟨rfl, h0⟩ | ⟨g, cap, cur, rfl, h1, h2, h3, h4, h5, h6⟩
  · have : l = [] := List.eq_nil_of_length_eq_zero h0
    subst this
    exact ⟨none, 0, rfl, .inl rfl⟩
  · refine ⟨_, cap, rfl, .inr ⟨g, 0, rfl, Nat.zero_le _, (Array.getElem?_eq_some_iff.1 h2).1, fun i z hz => ?_⟩⟩
    have hi := (List.getElem?_eq_some_iff.1 hz).1
    rw [row_rd h2]
    show cur[0 + i * 1]? = _
    rw [Nat.mul_one, Nat.zero_add]
    have e : (kV l)[i]? = some (.string z) := by simp [kV, hz]
    rw [← h6, List.getElem?_take, if_pos (by omega)] at e
    simpa using e
end Go.Proofs.YtnkaoeijcdchiaaGreatDoor.G
namespace Go.Proofs.YtnkaoeijcdchiaaGreatDoor.G
open Go.ChangeShapes Go.WideShapes Go.ChangeAt Go.RowKit
set_option linter.unusedVariables false

theorem sumW_take {l : List ByteArray} {k : Nat} (h : k < l.length) : sumW (l.take (k + 1)) = sumW (l.take k) + l[k].size + 1 := by
  rw [List.take_succ_eq_append_getElem h, sumW_app, sumW_cons, sumW_nil]; omega
set_option maxHeartbeats 1000000 in
theorem sz_texts (a : Option Addr) (c : Nat) (l : List ByteArray) (n : Int) (w : World) (hr : KeRow 0 w.heap.size w a l) (hl : l.length ≤ maxLen) (ht : ∀ x ∈ l, x.size ≤ maxLen) (h0 : 0 ≤ n) (h1 : n ≤ 1048576) :
    Calls Tryz.prog 24 #[.slice a l.length c, .int .i64 n] w fun e w' => ∃ m, e = .returned (.int .i64 m) ∧ Sz n m (sumW l ≤ 1048576) ∧ w' = w := by
  unfold maxLen at hl
  by_cases hz : n - l.length < 0
  · go_enter Tryz.func24, Tryz.ntmps24
    go_wp2_with fail
    go_ret
    exact ⟨-1, rfl, Sz.neg h0, rfl⟩
  · have HR : Hid (KeRow 0 w.heap.size w a l) := hr
    have HT : Hid (∀ x ∈ l, x.size ≤ maxLen) := ht
    clear hr ht
    go_enter Tryz.func24, Tryz.ntmps24
    go_wp2_with fail
    go_loop [1, 5] (fun r i => ∃ (k : Nat) (m : Int), k ≤ l.length ∧ i = .int .i64 k ∧ r = .int .i64 m ∧ 0 ≤ m ∧ m ≤ n ∧ Hid (m + sumW (l.take k) + l.length = n + k)) (fun _ i => l.length - (intOf i).toNat)
    case atStart => exact ⟨0, _, by omega, rfl, rfl, by omega, by omega, by rw [Hid, List.take_zero, sumW_nil]; omega⟩
    case round =>
      obtain ⟨k, m, hk, rfl, rfl, hm0, hm1, HK⟩ := hrel
      by_cases hlt : k < l.length
      · obtain ⟨b, o, ha, _, hbl, c0⟩ := KeRow.cells HR.out k hlt
        subst ha
        have hx : l[k].size ≤ maxLen := HT.out l[k] (List.getElem_mem hlt)
        unfold maxLen at hx
        by_cases hneg : m - l[k].size < 0
        · go_wp2_with fail
          go_ret
          exact ⟨-1, rfl, Sz.neg h0, rfl⟩
        · go_wp2_with fail
          go_round
          case rel => exact ⟨k + 1, m - l[k].size, by omega, by go_num, by go_num, by omega, by omega, by have := HK.out; rw [Hid, sumW_take hlt]; omega⟩
          case measure => simp [intOf]; omega
      · go_wp2_with fail
        go_ret
        rw [List.take_of_length_le (by omega)] at HK
        exact ⟨m, rfl, ⟨hm1, by omega, fun _ => by have := HK.out; omega⟩, rfl⟩
end Go.Proofs.YtnkaoeijcdchiaaGreatDoor.G
namespace Go.Proofs.YtnkaoeijcdchiaaGreatDoor.G
open Go.ChangeShapes Go.WideShapes Go.ChangeAt Go.RowKit
set_option linter.unusedVariables false

/-- What is known of a run that is not too great. -/
def RnSm (r : Rn) : Prop := RnBd 1048576 r ∧ r.h.keys.length + wO r.sub ≤ 1048576 ∧ sumW r.es ≤ 1048576
set_option maxHeartbeats 2000000 in
theorem sz_run (r : Rn) (p : RnA) (n : Int) (w : World) (hr : RunRow 0 w.heap.size w p r) (hb : RnBd maxLen r) (h0 : 0 ≤ n) (h1 : n ≤ 1048576) :
    Calls Tryz.prog 6 #[.agg #[.int .i64 r.need, .slice p.ra r.rs.length p.rc, .slice p.wa r.ws.length p.wc, .int .i64 r.h.k, .int .i64 r.h.n, .string r.h.t, .slice p.a1 r.h.keys.length p.c1, .slice p.a2 r.sub.len p.c2, .slice p.ea r.es.length p.ec], .int .i64 n] w fun e w' => ∃ m, e = .returned (.int .i64 m) ∧ Sz n m (RnSm r) ∧ Below w.heap.size w w' := by
  have HB : Hid (Below w.heap.size w (w.alloc (.cells #[.int .i64 r.need, .slice p.ra r.rs.length p.rc, .slice p.wa r.ws.length p.wc, .int .i64 r.h.k, .int .i64 r.h.n, .string r.h.t, .slice p.a1 r.h.keys.length p.c1, .slice p.a2 r.sub.len p.c2, .slice p.ea r.es.length p.ec] 32))) := (Below.refl _ _).alloc (Nat.le_refl _) _
  obtain ⟨V, hV⟩ : ∃ V, V = w.alloc (.cells #[.int .i64 r.need, .slice p.ra r.rs.length p.rc, .slice p.wa r.ws.length p.wc, .int .i64 r.h.k, .int .i64 r.h.n, .string r.h.t, .slice p.a1 r.h.keys.length p.c1, .slice p.a2 r.sub.len p.c2, .slice p.ea r.es.length p.ec] 32) := ⟨_, rfl⟩
  rw [← hV] at HB
  have c0 : V.heap[w.heap.size]? = some (.cells #[.int .i64 r.need, .slice p.ra r.rs.length p.rc, .slice p.wa r.ws.length p.wc, .int .i64 r.h.k, .int .i64 r.h.n, .string r.h.t, .slice p.a1 r.h.keys.length p.c1, .slice p.a2 r.sub.len p.c2, .slice p.ea r.es.length p.ec] 32 (0, 0)) := by rw [hV]; exact heap_alloc_new _ _
  have zV := (Array.getElem?_eq_some_iff.1 c0).1
  have HR : Hid (RunRow 0 V.heap.size V p r) := hr.up HB.out
  have HD : Hid (RnBd maxLen r) := hb
  have C0 : Hid _ := c0
  have y0 := fun o => row_cell c0 o
  clear hr hb c0
  go_enter Tryz.func6, Tryz.ntmps6
  go_upto_region 1 with fail
  rw [← hV]
  clear hV
  go_wp2_with fail
  refine (sz_nums p.ra p.rc r.rs.length n _ HD.out.1 h0 h1).mono ?_
  rintro e w1 ⟨m1, rfl, hm, rfl⟩
  have M1 : Hid (Sz n m1 (r.rs.length ≤ 1048576)) := hm
  have hm1 := hm.1
  clear hm
  by_cases g1 : m1 < 0
  · go_wp2_with fail
    go_ret
    exact ⟨-1, rfl, Sz.neg h0, HB.out⟩
  go_wp2_with fail
  refine (sz_Pus p.wa p.wc r.ws.length m1 _ HD.out.2.1 (by omega) (by omega)).mono ?_
  rintro e w1 ⟨m2, rfl, hm, rfl⟩
  have M2 : Hid (Sz m1 m2 (r.ws.length ≤ 1048576)) := hm
  have hm2 := hm.1
  clear hm
  by_cases g2 : m2 < 0
  · go_wp2_with fail
    go_ret
    exact ⟨-1, rfl, Sz.neg h0, HB.out⟩
  go_wp2_with fail
  refine (sz_out_w r.h r.sub (sz_ous_w r.sub) p.a1 p.a2 p.c1 p.c2 m2 _ HR.out.2.2.1 HR.out.2.2.2.1 HD.out.2.2.1.1 HD.out.2.2.1.2.1 HD.out.2.2.1.2.2 (by omega) (by omega)).mono ?_
  rintro e w2 ⟨m3, rfl, hm, hb2⟩
  have M3 : Hid (Sz m2 m3 ((OhBd 1048576 r.h ∧ r.sub.len ≤ 1048576 ∧ OusBd 1048576 r.sub) ∧ m3 + r.h.keys.length + wO r.sub ≤ m2)) := hm
  have hm3 := hm.1
  have B2 : Hid (Below w.heap.size w w2) := HB.out.trans (hb2.mono HB.out.size)
  have y2 := fun o => row_cell ((hb2.block _ zV).trans C0.out) o
  have R2 : Hid (KeRow 0 w2.heap.size w2 p.ea r.es) := KeRow.up HR.out.2.2.2.2 hb2
  clear hm hb2 y0 C0 HR
  by_cases g3 : m3 < 0
  · go_wp2_with fail
    go_ret
    exact ⟨-1, rfl, Sz.neg h0, B2.out⟩
  go_wp2_with fail
  refine (sz_texts p.ea p.ec r.es m3 _ R2.out HD.out.2.2.2.1 HD.out.2.2.2.2 (by omega) (by omega)).mono ?_
  rintro e w3 ⟨m4, rfl, hm, rfl⟩
  have M4 : Hid (Sz m3 m4 (sumW r.es ≤ 1048576)) := hm
  have hm4 := hm.1
  clear hm y2
  by_cases g4 : m4 < 0
  · go_wp2_with fail
    go_ret
    exact ⟨-1, rfl, Sz.neg h0, B2.out⟩
  go_wp2_with fail
  go_ret
  refine ⟨m4, rfl, ⟨by omega, by omega, fun _ => ?_⟩, B2.out⟩
  have q3 := M3.out.2.2 (by omega)
  have q4 := M4.out.2.2 (by omega)
  refine ⟨⟨M1.out.2.2 (by omega), M2.out.2.2 (by omega), q3.1, ?_, fun x hx => ?_⟩, by omega, q4⟩
  · have := len_sumW r.es; omega
  · have := mem_sumW hx; omega
end Go.Proofs.YtnkaoeijcdchiaaGreatDoor.G
namespace Go.Proofs.YtnkaoeijcdchiaaGreatDoor
open Go.ChangeShapes Go.WideShapes Go.ChangeAt Go.RowKit
set_option linter.unusedVariables false

structure Va where
  k : Int
  n : Int
  t : ByteArray
structure Ar where
  nm : ByteArray
  v : Va
structure Di where
  sk : Bool
  v : Va
/-- A selection but for its set. -/
structure Hd where
  k : Int
  al : ByteArray
  nm : ByteArray
  args : List Ar
  dirs : List Di
/-- A set: its first selection, that one's own set, and the rest. -/
inductive Sels where
  | nil
  | cons (h : Hd) (sub rest : Sels)
structure De where
  k : Int
  nm : ByteArray
  on : ByteArray
  sels : Sels

namespace Sels
def len : Sels → Nat
  | .nil => 0
  | .cons _ _ rest => rest.len + 1
def size : Sels → Nat
  | .nil => 0
  | .cons _ sub rest => 1 + sub.size + rest.size
def isNil : Sels → Bool
  | .nil => true
  | .cons _ _ _ => false
theorem isNil_len (l : Sels) : l.isNil = decide (l.len = 0) := by cases l <;> simp [isNil, len]
theorem len_le_size : ∀ l : Sels, l.len ≤ l.size
  | .nil => Nat.le_refl _
  | .cons h sub rest => by have := len_le_size rest; simp [len, size]; omega
end Sels





/-- A reader of cells that holds an argument, a directive at a place. -/
def ArAt (rd : Nat → Option Value) (o : Nat) (x : Ar) : Prop := rd o = some (.string x.nm) ∧ rd (o + 1) = some (.int .i64 x.v.k) ∧ rd (o + 2) = some (.int .i64 x.v.n) ∧ rd (o + 3) = some (.string x.v.t)
def DiAt (rd : Nat → Option Value) (o : Nat) (x : Di) : Prop := rd o = some (.bool x.sk) ∧ rd (o + 1) = some (.int .i64 x.v.k) ∧ rd (o + 2) = some (.int .i64 x.v.n) ∧ rd (o + 3) = some (.string x.v.t)
/-- The cells of a block. -/
def rdOf (w : World) (b : Nat) : Nat → Option Value := fun j => w.cell? ⟨b, j, none⟩
/-- A row of elements of some cells each, in a block from lo up and below hi; any place where there is none. -/
def Row {α : Type} (at_ : (Nat → Option Value) → Nat → α → Prop) (z : Nat) (lo hi : Nat) (w : World) (a : Option Addr) (l : List α) : Prop :=
  l = [] ∨ ∃ b o, a = some ⟨b, o, none⟩ ∧ lo ≤ b ∧ b < hi ∧ ∀ i x, l[i]? = some x → at_ (rdOf w b) (o + i * z) x
abbrev ArRow := Row ArAt 4
abbrev DiRow := Row DiAt 4

/-- One selection's cells but the last. -/
def HdAt (lo hi : Nat) (w : World) (rd : Nat → Option Value) (o : Nat) (h : Hd) : Prop :=
  rd o = some (.int .i64 h.k) ∧ rd (o + 1) = some (.string h.al) ∧ rd (o + 2) = some (.string h.nm) ∧
  (∃ a c, rd (o + 3) = some (.slice a h.args.length c) ∧ ArRow lo hi w a h.args) ∧
  (∃ a c, rd (o + 4) = some (.slice a h.dirs.length c) ∧ DiRow lo hi w a h.dirs)

/-- The first k of a set. -/
def SelPre (lo hi : Nat) (w : World) : Sels → (Nat → Option Value) → Nat → Nat → Prop
  | .nil, _, _, _ => True
  | .cons h sub rest, rd, o, k => k = 0 ∨ (HdAt lo hi w rd o h ∧
      (∃ a c, rd (o + 5) = some (.slice a sub.len c) ∧ (sub = .nil ∨ ∃ b o', a = some ⟨b, o', none⟩ ∧ lo ≤ b ∧ b < hi ∧ SelPre lo hi w sub (rdOf w b) o' sub.len)) ∧
      SelPre lo hi w rest rd (o + 6) (k - 1))
def SelRow (lo hi : Nat) (w : World) (a : Option Addr) (l : Sels) : Prop :=
  l = .nil ∨ ∃ b o, a = some ⟨b, o, none⟩ ∧ lo ≤ b ∧ b < hi ∧ SelPre lo hi w l (rdOf w b) o l.len

def DeAt (lo hi : Nat) (w : World) (rd : Nat → Option Value) (o : Nat) (x : De) : Prop :=
  rd o = some (.int .i64 x.k) ∧ rd (o + 1) = some (.string x.nm) ∧ rd (o + 2) = some (.string x.on) ∧
  (∃ a c, rd (o + 3) = some (.slice a x.sels.len c) ∧ SelRow lo hi w a x.sels)
def DeRow (lo hi : Nat) (w : World) (a : Option Addr) (l : List De) : Prop := Row (DeAt lo hi w) 4 lo hi w a l

/-- Two worlds agree on the blocks from lo up and below hi. -/
def Agree (lo hi : Nat) (w w' : World) : Prop := ∀ g, lo ≤ g → g < hi → w'.heap[g]? = w.heap[g]?
theorem Agree.rd {lo hi : Nat} {w w' : World} (h : Agree lo hi w w') {b : Nat} (h1 : lo ≤ b) (h2 : b < hi) : rdOf w' b = rdOf w b := by
  funext j; simp only [rdOf, World.cell?, h b h1 h2]
theorem Below.agree {B : Nat} {w w' : World} (h : Below B w w') {lo hi : Nat} (hh : hi ≤ B) : Agree lo hi w w' := fun g _ h2 => h.block g (by omega)

theorem Row.keep {α : Type} {at_ : (Nat → Option Value) → Nat → α → Prop} {z lo hi : Nat} {w w' : World} {a : Option Addr} {l : List α} (h : Row at_ z lo hi w a l) (hk : Agree lo hi w w') : Row at_ z lo hi w' a l := by
  rcases h with h | ⟨b, o, rfl, h1, h2, h3⟩
  · exact .inl h
  · exact .inr ⟨b, o, rfl, h1, h2, by rw [hk.rd h1 h2]; exact h3⟩
theorem Row.wide {α : Type} {at_ : (Nat → Option Value) → Nat → α → Prop} {z lo hi lo' hi' : Nat} {w : World} {a : Option Addr} {l : List α} (h : Row at_ z lo hi w a l) (h1 : lo' ≤ lo) (h2 : hi ≤ hi') : Row at_ z lo' hi' w a l := by
  rcases h with h | ⟨b, o, rfl, h3, h4, h5⟩
  · exact .inl h
  · exact .inr ⟨b, o, rfl, by omega, by omega, h5⟩
theorem Row.at_ {α : Type} {at_ : (Nat → Option Value) → Nat → α → Prop} {z lo hi : Nat} {w : World} {a : Option Addr} {l : List α} (h : Row at_ z lo hi w a l) (k : Nat) (hk : k < l.length) :
    ∃ b o, a = some ⟨b, o, none⟩ ∧ lo ≤ b ∧ b < hi ∧ at_ (rdOf w b) (o + k * z) l[k] := by
  rcases h with rfl | ⟨b, o, rfl, h1, h2, h3⟩
  · simp at hk
  · exact ⟨b, o, rfl, h1, h2, h3 k l[k] (List.getElem?_eq_getElem hk)⟩
theorem HdAt.keep {lo hi : Nat} {w w' : World} {rd : Nat → Option Value} {o : Nat} {h : Hd} (hh : HdAt lo hi w rd o h) (hk : Agree lo hi w w') : HdAt lo hi w' rd o h := by
  obtain ⟨h0, h1, h2, ⟨a, c, h3, h3'⟩, ⟨a', c', h4, h4'⟩⟩ := hh
  exact ⟨h0, h1, h2, ⟨a, c, h3, h3'.keep hk⟩, ⟨a', c', h4, h4'.keep hk⟩⟩
theorem HdAt.wide {lo hi lo' hi' : Nat} {w : World} {rd : Nat → Option Value} {o : Nat} {h : Hd} (hh : HdAt lo hi w rd o h) (e1 : lo' ≤ lo) (e2 : hi ≤ hi') : HdAt lo' hi' w rd o h := by
  obtain ⟨h0, h1, h2, ⟨a, c, h3, h3'⟩, ⟨a', c', h4, h4'⟩⟩ := hh
  exact ⟨h0, h1, h2, ⟨a, c, h3, h3'.wide e1 e2⟩, ⟨a', c', h4, h4'.wide e1 e2⟩⟩
theorem SelPre.keep {lo hi : Nat} {w w' : World} (hk : Agree lo hi w w') : ∀ {l : Sels} {rd : Nat → Option Value} {o k : Nat}, SelPre lo hi w l rd o k → SelPre lo hi w' l rd o k
  | .nil, _, _, _, _ => trivial
  | .cons h sub rest, rd, o, k, hp => by
    rcases hp with hp | ⟨p1, ⟨a, c, p2, p3⟩, p4⟩
    · exact .inl hp
    · refine .inr ⟨p1.keep hk, ⟨a, c, p2, ?_⟩, SelPre.keep hk p4⟩
      rcases p3 with p3 | ⟨b, o', e, e1, e2, p3⟩
      · exact .inl p3
      · exact .inr ⟨b, o', e, e1, e2, by rw [hk.rd e1 e2]; exact SelPre.keep hk p3⟩
theorem SelPre.wide {lo hi lo' hi' : Nat} {w : World} (e1 : lo' ≤ lo) (e2 : hi ≤ hi') : ∀ {l : Sels} {rd : Nat → Option Value} {o k : Nat}, SelPre lo hi w l rd o k → SelPre lo' hi' w l rd o k
  | .nil, _, _, _, _ => trivial
  | .cons h sub rest, rd, o, k, hp => by
    rcases hp with hp | ⟨p1, ⟨a, c, p2, p3⟩, p4⟩
    · exact .inl hp
    · refine .inr ⟨p1.wide e1 e2, ⟨a, c, p2, ?_⟩, SelPre.wide e1 e2 p4⟩
      rcases p3 with p3 | ⟨b, o', e, f1, f2, p3⟩
      · exact .inl p3
      · exact .inr ⟨b, o', e, by omega, by omega, SelPre.wide e1 e2 p3⟩
theorem SelRow.keep {lo hi : Nat} {w w' : World} {a : Option Addr} {l : Sels} (h : SelRow lo hi w a l) (hk : Agree lo hi w w') : SelRow lo hi w' a l := by
  rcases h with h | ⟨b, o, rfl, h1, h2, h3⟩
  · exact .inl h
  · exact .inr ⟨b, o, rfl, h1, h2, by rw [hk.rd h1 h2]; exact h3.keep hk⟩
theorem SelRow.wide {lo hi lo' hi' : Nat} {w : World} {a : Option Addr} {l : Sels} (h : SelRow lo hi w a l) (e1 : lo' ≤ lo) (e2 : hi ≤ hi') : SelRow lo' hi' w a l := by
  rcases h with h | ⟨b, o, rfl, h1, h2, h3⟩
  · exact .inl h
  · exact .inr ⟨b, o, rfl, by omega, by omega, h3.wide e1 e2⟩
theorem DeAt.keep {lo hi : Nat} {w w' : World} {rd : Nat → Option Value} {o : Nat} {x : De} (hh : DeAt lo hi w rd o x) (hk : Agree lo hi w w') : DeAt lo hi w' rd o x := by
  obtain ⟨h0, h1, h2, ⟨a, c, h3, h3'⟩⟩ := hh
  exact ⟨h0, h1, h2, ⟨a, c, h3, h3'.keep hk⟩⟩
theorem DeAt.wide {lo hi lo' hi' : Nat} {w : World} {rd : Nat → Option Value} {o : Nat} {x : De} (hh : DeAt lo hi w rd o x) (e1 : lo' ≤ lo) (e2 : hi ≤ hi') : DeAt lo' hi' w rd o x := by
  obtain ⟨h0, h1, h2, ⟨a, c, h3, h3'⟩⟩ := hh
  exact ⟨h0, h1, h2, ⟨a, c, h3, h3'.wide e1 e2⟩⟩
theorem DeRow.keep {lo hi : Nat} {w w' : World} {a : Option Addr} {l : List De} (h : DeRow lo hi w a l) (hk : Agree lo hi w w') : DeRow lo hi w' a l := by
  rcases h with h | ⟨b, o, rfl, h1, h2, h3⟩
  · exact .inl h
  · exact .inr ⟨b, o, rfl, h1, h2, fun i x hx => by rw [hk.rd h1 h2]; exact (h3 i x hx).keep hk⟩
theorem DeRow.wide {lo hi lo' hi' : Nat} {w : World} {a : Option Addr} {l : List De} (h : DeRow lo hi w a l) (e1 : lo' ≤ lo) (e2 : hi ≤ hi') : DeRow lo' hi' w a l := by
  rcases h with h | ⟨b, o, rfl, h1, h2, h3⟩
  · exact .inl h
  · exact .inr ⟨b, o, rfl, by omega, by omega, fun i x hx => (h3 i x hx).wide e1 e2⟩
/-- The first of a set and the rest of it. -/
theorem SelPre.head {lo hi : Nat} {w : World} {h : Hd} {sub rest : Sels} {rd : Nat → Option Value} {o : Nat} (hp : SelPre lo hi w (.cons h sub rest) rd o (rest.len + 1)) :
    HdAt lo hi w rd o h ∧ (∃ a c, rd (o + 5) = some (.slice a sub.len c) ∧ SelRow lo hi w a sub) ∧ SelPre lo hi w rest rd (o + 6) rest.len := by
  rcases hp with hp | ⟨p1, p2, p3⟩
  · omega
  · exact ⟨p1, p2, p3⟩
/-- Selections ahead of a set. -/
def app : List (Hd × Sels) → Sels → Sels
  | [], r => r
  | x :: p, r => .cons x.1 x.2 (app p r)
theorem app_snoc : ∀ (p : List (Hd × Sels)) (h : Hd) (sub rest : Sels), app (p ++ [(h, sub)]) rest = app p (.cons h sub rest)
  | [], _, _, _ => rfl
  | x :: p, h, sub, rest => by simp only [List.cons_append, app]; rw [app_snoc p]
theorem app_len : ∀ (p : List (Hd × Sels)) (r : Sels), (app p r).len = p.length + r.len
  | [], r => by simp [app]
  | x :: p, r => by simp only [app, Sels.len, List.length_cons]; rw [app_len p]; omega
/-- The k-th of a set is laid, those ahead of it were: then one more is. -/
theorem SelPre.more {lo hi : Nat} {w : World} {rd : Nat → Option Value} {h : Hd} {sub rest : Sels} : ∀ (pre : List (Hd × Sels)) {o : Nat}, SelPre lo hi w (app pre (.cons h sub rest)) rd o pre.length →
    HdAt lo hi w rd (o + 6 * pre.length) h → (∃ a c, rd (o + 6 * pre.length + 5) = some (.slice a sub.len c) ∧ SelRow lo hi w a sub) → SelPre lo hi w (app pre (.cons h sub rest)) rd o (pre.length + 1)
  | [], o, hp, hh, hs => by
    refine .inr ⟨by simpa using hh, by simpa [SelRow] using hs, ?_⟩
    cases rest with
    | nil => exact trivial
    | cons _ _ _ => exact .inl rfl
  | x :: pre, o, hp, hh, hs => by
    rcases hp with hp | ⟨p1, p2, p3⟩
    · simp at hp
    · refine .inr ⟨p1, p2, ?_⟩
      simp only [List.length_cons] at hh hs ⊢
      exact SelPre.more pre (by simpa using p3) (by rw [show o + 6 + 6 * pre.length = o + 6 * (pre.length + 1) by omega]; exact hh) (by rw [show o + 6 + 6 * pre.length + 5 = o + 6 * (pre.length + 1) + 5 by omega]; exact hs)
/-- Only the cells of the first k count. -/
theorem SelPre.cells {lo hi : Nat} {w : World} {rd rd' : Nat → Option Value} : ∀ {l : Sels} {o k : Nat}, SelPre lo hi w l rd o k → (∀ j, o ≤ j → j < o + 6 * k → rd' j = rd j) → SelPre lo hi w l rd' o k
  | .nil, _, _, _, _ => trivial
  | .cons h sub rest, o, k, hp, hc => by
    rcases hp with hp | ⟨⟨h0, h1, h2, ⟨a1, c1, h3, h3'⟩, ⟨a2, c2, h4, h4'⟩⟩, ⟨a, c, p2, p2'⟩, p3⟩
    · exact .inl hp
    · by_cases hk : k = 0
      · exact .inl hk
      · refine .inr ⟨⟨(hc _ (by omega) (by omega)).trans h0, (hc _ (by omega) (by omega)).trans h1, (hc _ (by omega) (by omega)).trans h2, ⟨a1, c1, (hc _ (by omega) (by omega)).trans h3, h3'⟩, ⟨a2, c2, (hc _ (by omega) (by omega)).trans h4, h4'⟩⟩, ⟨a, c, (hc _ (by omega) (by omega)).trans p2, p2'⟩, ?_⟩
        exact p3.cells fun j hj hj' => hc j (by omega) (by omega)
end Go.Proofs.YtnkaoeijcdchiaaGreatDoor
namespace Go.Proofs.YtnkaoeijcdchiaaGreatDoor
open Go.ChangeShapes Go.WideShapes Go.ChangeAt Go.RowKit
set_option linter.unusedVariables false

def VaBd (m : Nat) (v : Va) : Prop := v.t.size ≤ m
def ArBd (m : Nat) (x : Ar) : Prop := x.nm.size ≤ m ∧ x.v.t.size ≤ m
def DiBd (m : Nat) (x : Di) : Prop := x.v.t.size ≤ m
def HdBd (m : Nat) (h : Hd) : Prop := h.al.size ≤ m ∧ h.nm.size ≤ m ∧ h.args.length ≤ m ∧ (∀ x ∈ h.args, ArBd m x) ∧ h.dirs.length ≤ m ∧ ∀ x ∈ h.dirs, DiBd m x
def SelsBd (m : Nat) : Sels → Prop
  | .nil => True
  | .cons h sub rest => HdBd m h ∧ sub.len ≤ m ∧ SelsBd m sub ∧ SelsBd m rest
def DeBd (m : Nat) (x : De) : Prop := x.nm.size ≤ m ∧ x.on.size ≤ m ∧ x.sels.len ≤ m ∧ SelsBd m x.sels
def DefsBd (m : Nat) (l : List De) : Prop := l.length ≤ m ∧ ∀ x ∈ l, DeBd m x

theorem cell_lt {W : World} {a : Addr} {v : Value} (h : W.cell? a = some v) : a.block < W.heap.size := by
  refine Nat.lt_of_not_le fun hle => ?_
  simp [World.cell?, Array.getElem?_eq_none hle] at h
theorem list_of {α : Type} {len : Nat} {p : Nat → α → Prop} (h : ∀ i, i < len → ∃ x, p i x) : ∃ l : List α, l.length = len ∧ ∀ i x, l[i]? = some x → p i x := by
  induction len with
  | zero => exact ⟨[], rfl, by simp⟩
  | succ n ih =>
    obtain ⟨l, hl, hp⟩ := ih fun i hi => h i (by omega)
    obtain ⟨y, hy⟩ := h n (by omega)
    refine ⟨l ++ [y], by simp [hl], fun i x hx => ?_⟩
    by_cases hi : i < n
    · rw [List.getElem?_append_left (by omega)] at hx; exact hp i x hx
    · rw [List.getElem?_append_right (by omega)] at hx
      have : i - l.length < 1 := by have := (List.getElem?_eq_some_iff.1 hx).1; simpa using this
      obtain rfl : i = n := by omega
      rw [hl, Nat.sub_self] at hx
      simp at hx; subst hx; exact hy

theorem list3 {α : Type} {l : List α} (h : l.length = 3) : ∃ a b c, l = [a, b, c] := by
  match l, h with
  | [a, b, c], _ => exact ⟨a, b, c, rfl⟩
theorem list4 {α : Type} {l : List α} (h : l.length = 4) : ∃ a b c d, l = [a, b, c, d] := by
  match l, h with
  | [a, b, c, d], _ => exact ⟨a, b, c, d, rfl⟩
theorem list6 {α : Type} {l : List α} (h : l.length = 6) : ∃ a b c d e f, l = [a, b, c, d, e, f] := by
  match l, h with
  | [a, b, c, d, e, f], _ => exact ⟨a, b, c, d, e, f, rfl⟩

section
variable {H : Type} {enc : TypeId × Value → H} {W : World}
/-- A slice's cell opened: its elements' cells, each with its own reading. -/
theorem sl_open {t e : TypeId} {z : Nat} {fuel : Nat} {cs : List Value} {x : DataW H × List MemPlace} (ht : Tryz.prog.underlying t = some (.slice e)) (hz : Tryz.prog.cellsOf e = z) (hz0 : 0 < z) (h : DataW.trod enc Tryz.prog W 0 (fun _ => true) true fuel t cs = some x) :
    ∃ a len cap, cs = [.slice a len cap] ∧ len ≤ maxLen ∧ (len = 0 ∨ ∃ n b o, fuel = n + 1 ∧ a = some ⟨b, o, none⟩ ∧ b < W.heap.size ∧
      ∀ i, i < len → ∃ cs' y, cs'.length = z ∧ (∀ j, j < z → rdOf W b (o + i * z + j) = cs'[j]?) ∧ DataW.trod enc Tryz.prog W 0 (fun _ => true) true n e cs' = some y) := by
  rcases DataW.trod_slice ht h with ⟨rfl, _⟩ | ⟨a, len, cap, elems, rest, n, rfl, rfl, _, hb, hl, hm, hlen, hel, _, _⟩
  · exact ⟨none, 0, 0, rfl, Nat.zero_le _, .inl rfl⟩
  · refine ⟨some a, len, cap, rfl, by omega, ?_⟩
    by_cases h0 : len = 0
    · exact .inl h0
    rw [hz] at hel
    have key : ∀ i, i < len → ∃ cs' y, cs'.length = z ∧ (∀ j, j < z → W.cell? ((a.add (i * z)).add j) = cs'[j]?) ∧ DataW.trod enc Tryz.prog W 0 (fun _ => true) true n e cs' = some y := by
      intro i hi
      have := hel i hi
      rw [List.getElem?_eq_getElem (by omega), Option.bind_eq_some_iff] at this
      obtain ⟨cs', h1, h2⟩ := this
      obtain ⟨_, hcl, hc⟩ := World.cells?_some h1
      exact ⟨cs', _, hcl, hc, h2⟩
    obtain ⟨b, o, spot⟩ := a
    obtain ⟨cs', y, hcl, hc, _⟩ := key 0 (by omega)
    have hc0 := hc 0 hz0
    rw [List.getElem?_eq_getElem (by omega)] at hc0
    have hspot : spot = none := by
      have := World.cell?_spot hc0
      simpa [Addr.add] using this
    subst hspot
    refine .inr ⟨n, b, o, rfl, rfl, (by have := cell_lt hc0; simpa [Addr.add] using this), fun i hi => ?_⟩
    obtain ⟨cs', y, hcl, hc, hd⟩ := key i hi
    refine ⟨cs', y, hcl, fun j hj => ?_, hd⟩
    have := hc j hj
    simp only [add_plain] at this
    exact this

theorem va_cells {n : Nat} {cs : List Value} {x : DataW H × List MemPlace} (h : DataW.trod enc Tryz.prog W 0 (fun _ => true) true n 199 cs = some x) : ∃ v : Va, cs = [.int .i64 v.k, .int .i64 v.n, .string v.t] ∧ VaBd maxLen v := by
  have ci : Tryz.prog.cellsOf 3 = 1 := by kernel_rfl
  have cst : Tryz.prog.cellsOf 9 = 1 := by kernel_rfl
  have cv : Tryz.prog.cellsOf 199 = 3 := by kernel_rfl
  obtain ⟨y0, y1, y2, m, _, hlen, h0, h1, h2⟩ := Deep.trod_struct3 Tryz.underlying199 h
  rw [cv] at hlen
  obtain ⟨v0, v1, v2, rfl⟩ := list3 hlen
  obtain ⟨k, e0, _, _⟩ := DataW.trod_int Tryz.underlying3 h0
  obtain ⟨j, e1, _, _⟩ := DataW.trod_int Tryz.underlying3 h1
  obtain ⟨s, e2, _, hs⟩ := DataW.trod_string Tryz.underlying9 h2
  simp [ci, cst] at e0 e1 e2
  subst e0 e1 e2
  exact ⟨⟨k, j, s⟩, rfl, hs⟩
theorem ar_cells {n : Nat} {cs : List Value} {x : DataW H × List MemPlace} (h : DataW.trod enc Tryz.prog W 0 (fun _ => true) true n 201 cs = some x) : ∃ v : Ar, cs = [.string v.nm, .int .i64 v.v.k, .int .i64 v.v.n, .string v.v.t] ∧ ArBd maxLen v := by
  have cst : Tryz.prog.cellsOf 9 = 1 := by kernel_rfl
  have cv : Tryz.prog.cellsOf 199 = 3 := by kernel_rfl
  have ca : Tryz.prog.cellsOf 201 = 4 := by kernel_rfl
  obtain ⟨y0, y1, m, _, hlen, h0, h1⟩ := trod_struct2 Tryz.underlying201 h
  rw [ca] at hlen
  obtain ⟨v0, v1, v2, v3, rfl⟩ := list4 hlen
  obtain ⟨s, e0, _, hs⟩ := DataW.trod_string Tryz.underlying9 h0
  obtain ⟨v, e1, hv⟩ := va_cells h1
  simp [cst, cv] at e0 e1
  obtain ⟨rfl, rfl, rfl⟩ := e1
  subst e0
  exact ⟨⟨s, v⟩, rfl, hs, hv⟩
theorem di_cells {n : Nat} {cs : List Value} {x : DataW H × List MemPlace} (h : DataW.trod enc Tryz.prog W 0 (fun _ => true) true n 204 cs = some x) : ∃ v : Di, cs = [.bool v.sk, .int .i64 v.v.k, .int .i64 v.v.n, .string v.v.t] ∧ DiBd maxLen v := by
  have cb : Tryz.prog.cellsOf 4 = 1 := by kernel_rfl
  have cv : Tryz.prog.cellsOf 199 = 3 := by kernel_rfl
  have ca : Tryz.prog.cellsOf 204 = 4 := by kernel_rfl
  obtain ⟨y0, y1, m, _, hlen, h0, h1⟩ := trod_struct2 Tryz.underlying204 h
  rw [ca] at hlen
  obtain ⟨v0, v1, v2, v3, rfl⟩ := list4 hlen
  obtain ⟨s, e0, _⟩ := DataW.trod_bool Tryz.underlying4 h0
  obtain ⟨v, e1, hv⟩ := va_cells h1
  simp [cb, cv] at e0 e1
  obtain ⟨rfl, rfl, rfl⟩ := e1
  subst e0
  exact ⟨⟨s, v⟩, rfl, hv⟩
theorem args_open {fuel : Nat} {cs : List Value} {x : DataW H × List MemPlace} (h : DataW.trod enc Tryz.prog W 0 (fun _ => true) true fuel 150 cs = some x) :
    ∃ a c, ∃ l : List Ar, cs = [.slice a l.length c] ∧ l.length ≤ maxLen ∧ (∀ x ∈ l, ArBd maxLen x) ∧ ArRow 0 W.heap.size W a l := by
  obtain ⟨a, len, cap, rfl, hm, hr⟩ := sl_open Tryz.underlying150 (z := 4) (by kernel_rfl) (by omega) h
  rcases hr with rfl | ⟨n, b, o, rfl, rfl, hb, hx⟩
  · exact ⟨a, cap, [], rfl, Nat.zero_le _, by simp, .inl rfl⟩
  · obtain ⟨l, hl, hp⟩ := list_of (p := fun i x => ArAt (rdOf W b) (o + i * 4) x ∧ ArBd maxLen x) (fun i hi => by
      obtain ⟨cs', y, hcl, hc, hd⟩ := hx i hi
      obtain ⟨v, rfl, hv⟩ := ar_cells hd
      exact ⟨v, ⟨hc 0 (by omega), hc 1 (by omega), hc 2 (by omega), hc 3 (by omega)⟩, hv⟩)
    subst hl
    refine ⟨_, cap, l, rfl, hm, fun x hx => ?_, .inr ⟨b, o, rfl, Nat.zero_le _, hb, fun i x hx => (hp i x hx).1⟩⟩
    obtain ⟨i, hi, rfl⟩ := List.getElem_of_mem hx
    exact (hp i _ (List.getElem?_eq_getElem hi)).2
theorem dirs_open {fuel : Nat} {cs : List Value} {x : DataW H × List MemPlace} (h : DataW.trod enc Tryz.prog W 0 (fun _ => true) true fuel 151 cs = some x) :
    ∃ a c, ∃ l : List Di, cs = [.slice a l.length c] ∧ l.length ≤ maxLen ∧ (∀ x ∈ l, DiBd maxLen x) ∧ DiRow 0 W.heap.size W a l := by
  obtain ⟨a, len, cap, rfl, hm, hr⟩ := sl_open Tryz.underlying151 (z := 4) (by kernel_rfl) (by omega) h
  rcases hr with rfl | ⟨n, b, o, rfl, rfl, hb, hx⟩
  · exact ⟨a, cap, [], rfl, Nat.zero_le _, by simp, .inl rfl⟩
  · obtain ⟨l, hl, hp⟩ := list_of (p := fun i x => DiAt (rdOf W b) (o + i * 4) x ∧ DiBd maxLen x) (fun i hi => by
      obtain ⟨cs', y, hcl, hc, hd⟩ := hx i hi
      obtain ⟨v, rfl, hv⟩ := di_cells hd
      exact ⟨v, ⟨hc 0 (by omega), hc 1 (by omega), hc 2 (by omega), hc 3 (by omega)⟩, hv⟩)
    subst hl
    refine ⟨_, cap, l, rfl, hm, fun x hx => ?_, .inr ⟨b, o, rfl, Nat.zero_le _, hb, fun i x hx => (hp i x hx).1⟩⟩
    obtain ⟨i, hi, rfl⟩ := List.getElem_of_mem hx
    exact (hp i _ (List.getElem?_eq_getElem hi)).2

/-- Selections by index are a set. -/
theorem sels_of {lo hi : Nat} {w : World} {rd : Nat → Option Value} {m : Nat} : ∀ {l : List (Hd × Sels)} {o : Nat}, (∀ i x, l[i]? = some x → HdAt lo hi w rd (o + i * 6) x.1 ∧ (∃ a c, rd (o + i * 6 + 5) = some (.slice a x.2.len c) ∧ SelRow lo hi w a x.2) ∧ HdBd m x.1 ∧ x.2.len ≤ m ∧ SelsBd m x.2) →
    SelPre lo hi w (app l .nil) rd o l.length ∧ SelsBd m (app l .nil)
  | [], _, _ => ⟨trivial, trivial⟩
  | x :: l, o, h => by
    obtain ⟨h1, h2, h3, h4, h5⟩ := h 0 x rfl
    have := sels_of (l := l) (o := o + 6) (fun i y hy => by
      have := h (i + 1) y (by simpa using hy)
      rw [show o + (i + 1) * 6 = o + 6 + i * 6 by omega] at this
      exact this)
    simp only [Nat.zero_mul, Nat.add_zero] at h1 h2
    exact ⟨.inr ⟨h1, h2, this.1⟩, h3, h4, h5, this.2⟩
theorem sels_open : ∀ {fuel : Nat} {cs : List Value} {x : DataW H × List MemPlace}, DataW.trod enc Tryz.prog W 0 (fun _ => true) true fuel 83 cs = some x →
    ∃ a c, ∃ l : Sels, cs = [.slice a l.len c] ∧ l.len ≤ maxLen ∧ SelsBd maxLen l ∧ SelRow 0 W.heap.size W a l := by
  intro fuel
  induction fuel using Nat.strongRecOn with
  | _ fuel ih =>
  intro cs x h
  have ci : Tryz.prog.cellsOf 3 = 1 := by kernel_rfl
  have cst : Tryz.prog.cellsOf 9 = 1 := by kernel_rfl
  have cs1 : Tryz.prog.cellsOf 150 = 1 := by kernel_rfl
  have cs2 : Tryz.prog.cellsOf 151 = 1 := by kernel_rfl
  have cs3 : Tryz.prog.cellsOf 83 = 1 := by kernel_rfl
  obtain ⟨a, len, cap, rfl, hm, hr⟩ := sl_open Tryz.underlying83 (z := 6) (by kernel_rfl) (by omega) h
  rcases hr with rfl | ⟨n, b, o, rfl, rfl, hb, hx⟩
  · exact ⟨a, cap, .nil, rfl, Nat.zero_le _, trivial, .inl rfl⟩
  · obtain ⟨l, hl, hp⟩ := list_of (p := fun i (x : Hd × Sels) => HdAt 0 W.heap.size W (rdOf W b) (o + i * 6) x.1 ∧ (∃ a c, rdOf W b (o + i * 6 + 5) = some (.slice a x.2.len c) ∧ SelRow 0 W.heap.size W a x.2) ∧ HdBd maxLen x.1 ∧ x.2.len ≤ maxLen ∧ SelsBd maxLen x.2) (fun i hi => by
      obtain ⟨cs', y, hcl, hc, hd⟩ := hx i hi
      obtain ⟨xs, n', rfl, rfl, _, hxl, hf⟩ := DataW.trod_struct Tryz.underlying153 hd
      obtain ⟨v0, v1, v2, v3, v4, v5, rfl⟩ := list6 hcl
      obtain ⟨y0, y1, y2, y3, y4, y5, rfl⟩ := list6 hxl
      obtain ⟨k, e0, _, _⟩ := DataW.trod_int Tryz.underlying3 (hf 0 _ rfl)
      obtain ⟨al, e1, _, hal⟩ := DataW.trod_string Tryz.underlying9 (hf 1 _ rfl)
      obtain ⟨nm, e2, _, hnm⟩ := DataW.trod_string Tryz.underlying9 (hf 2 _ rfl)
      obtain ⟨a3, c3, args, e3, b3, d3, r3⟩ := args_open (hf 3 _ rfl)
      obtain ⟨a4, c4, dirs, e4, b4, d4, r4⟩ := dirs_open (hf 4 _ rfl)
      obtain ⟨a5, c5, sub, e5, b5, d5, r5⟩ := ih n' (by omega) (hf 5 _ rfl)
      simp [ci, cst, cs1, cs2, cs3] at e0 e1 e2 e3 e4 e5
      subst e0 e1 e2 e3 e4 e5
      exact ⟨(⟨k, al, nm, args, dirs⟩, sub), ⟨hc 0 (by omega), hc 1 (by omega), hc 2 (by omega), ⟨a3, c3, hc 3 (by omega), r3⟩, ⟨a4, c4, hc 4 (by omega), r4⟩⟩, ⟨a5, c5, hc 5 (by omega), r5⟩, ⟨hal, hnm, b3, d3, b4, d4⟩, b5, d5⟩)
    obtain ⟨q1, q2⟩ := sels_of hp
    have hal : (app l .nil).len = len := by rw [app_len, hl]; rfl
    refine ⟨_, cap, app l .nil, by rw [hal], by omega, q2, .inr ⟨b, o, rfl, Nat.zero_le _, hb, ?_⟩⟩
    rw [hal, ← hl]; exact q1
theorem defs_open {fuel : Nat} {cs : List Value} {x : DataW H × List MemPlace} (h : DataW.trod enc Tryz.prog W 0 (fun _ => true) true fuel 22 cs = some x) :
    ∃ a c, ∃ l : List De, cs = [.slice a l.length c] ∧ DefsBd maxLen l ∧ DeRow 0 W.heap.size W a l := by
  have ci : Tryz.prog.cellsOf 3 = 1 := by kernel_rfl
  have cst : Tryz.prog.cellsOf 9 = 1 := by kernel_rfl
  have cs3 : Tryz.prog.cellsOf 83 = 1 := by kernel_rfl
  obtain ⟨a, len, cap, rfl, hm, hr⟩ := sl_open Tryz.underlying22 (z := 4) (by kernel_rfl) (by omega) h
  rcases hr with rfl | ⟨n, b, o, rfl, rfl, hb, hx⟩
  · exact ⟨a, cap, [], rfl, ⟨Nat.zero_le _, by simp⟩, .inl rfl⟩
  · obtain ⟨l, hl, hp⟩ := list_of (p := fun i x => DeAt 0 W.heap.size W (rdOf W b) (o + i * 4) x ∧ DeBd maxLen x) (fun i hi => by
      obtain ⟨cs', y, hcl, hc, hd⟩ := hx i hi
      obtain ⟨xs, n', rfl, rfl, _, hxl, hf⟩ := DataW.trod_struct Tryz.underlying85 hd
      obtain ⟨v0, v1, v2, v3, rfl⟩ := list4 hcl
      obtain ⟨y0, y1, y2, y3, rfl⟩ := list4 hxl
      obtain ⟨k, e0, _, _⟩ := DataW.trod_int Tryz.underlying3 (hf 0 _ rfl)
      obtain ⟨nm, e1, _, hnm⟩ := DataW.trod_string Tryz.underlying9 (hf 1 _ rfl)
      obtain ⟨on, e2, _, hon⟩ := DataW.trod_string Tryz.underlying9 (hf 2 _ rfl)
      obtain ⟨a5, c5, sub, e5, b5, d5, r5⟩ := sels_open (hf 3 _ rfl)
      simp [ci, cst, cs3] at e0 e1 e2 e5
      subst e0 e1 e2 e5
      exact ⟨⟨k, nm, on, sub⟩, ⟨hc 0 (by omega), hc 1 (by omega), hc 2 (by omega), ⟨a5, c5, hc 3 (by omega), r5⟩⟩, hnm, hon, b5, d5⟩)
    subst hl
    refine ⟨_, cap, l, rfl, ⟨hm, fun x hx => ?_⟩, .inr ⟨b, o, rfl, Nat.zero_le _, hb, fun i x hx => (hp i x hx).1⟩⟩
    obtain ⟨i, hi, rfl⟩ := List.getElem_of_mem hx
    exact (hp i _ (List.getElem?_eq_getElem hi)).2
end
end Go.Proofs.YtnkaoeijcdchiaaGreatDoor
namespace Go.Proofs.YtnkaoeijcdchiaaGreatDoor
open Go.ChangeShapes Go.WideShapes Go.ChangeAt Go.RowKit
set_option linter.unusedVariables false

def noB (s : ByteArray) : Bool := s.toList.isEmpty
def onB (s : ByteArray) : Bool := s.toList == [111, 110]
def valB (v : Va) : Bool :=
  if v.k = 1 then intB v.n && noB v.t
  else if v.k = 2 then (v.n == 0 || v.n == 1) && noB v.t
  else if v.k = 3 then (v.n == 0) && noB v.t
  else if v.k = 4 then (v.n == 0) && nameB v.t
  else false
def arB (x : Ar) : Bool := nameB x.nm && valB x.v
def diB (x : Di) : Bool := valB x.v
def argsB (l : List Ar) : Bool := decide (l.length ≤ 4) && l.all arB
def dirsB (l : List Di) : Bool := decide (l.length ≤ 4) && l.all diB
def kindB (h : Hd) (z : Bool) : Bool :=
  if h.k = 1 then nameB h.nm && (noB h.al || nameB h.al)
  else if h.k = 2 then nameB h.nm && !onB h.nm && noB h.al && h.args.isEmpty && z
  else if h.k = 3 then (noB h.nm || nameB h.nm) && noB h.al && h.args.isEmpty && !z
  else false
def hdB (h : Hd) (z : Bool) : Bool := argsB h.args && dirsB h.dirs && kindB h z
def okS : Nat → Sels → Bool
  | _, .nil => true
  | d, .cons h sub rest => decide (0 < d) && hdB h sub.isNil && okS (d - 1) sub && okS d rest
def headB (x : De) : Bool :=
  if x.k = 1 ∨ x.k = 2 then (noB x.nm || nameB x.nm) && noB x.on
  else if x.k = 3 then nameB x.nm && !onB x.nm && nameB x.on
  else false
def defB (x : De) : Bool := headB x && !x.sels.isNil && okS 7 x.sels
def sizeL : List De → Nat
  | [] => 0
  | x :: l => x.sels.size + sizeL l
def docB (l : List De) : Bool := decide (1 ≤ l.length) && decide (l.length ≤ 6) && l.all defB && decide (sizeL l ≤ 60)
namespace Sels
def depth : Sels → Nat
  | .nil => 0
  | .cons _ sub rest => max (1 + sub.depth) rest.depth
theorem depth_le : ∀ {d : Nat} {l : Sels}, okS d l = true → l.depth ≤ d
  | _, .nil, _ => Nat.zero_le _
  | d, .cons h sub rest, hk => by
    simp only [okS, Bool.and_eq_true, decide_eq_true_eq] at hk
    have h1 := depth_le hk.1.2
    have h2 := depth_le hk.2
    simp only [depth]; omega
end Sels
def depthL : List De → Nat
  | [] => 0
  | x :: l => max x.sels.depth (depthL l)
theorem sizeL_append (a b : List De) : sizeL (a ++ b) = sizeL a + sizeL b := by
  induction a with
  | nil => simp [sizeL]
  | cons x a ih => simp only [List.cons_append, sizeL, ih]; omega
theorem sizeL_take {l : List De} {k : Nat} (hk : k < l.length) : sizeL (l.take (k + 1)) = sizeL (l.take k) + l[k].sels.size := by
  rw [List.take_succ_eq_append_getElem hk, sizeL_append]; simp [sizeL]
theorem sizeL_le (l : List De) (k : Nat) : sizeL (l.take k) ≤ sizeL l := by
  have : sizeL l = sizeL (l.take k) + sizeL (l.drop k) := by rw [← sizeL_append, List.take_append_drop]
  omega
end Go.Proofs.YtnkaoeijcdchiaaGreatDoor
