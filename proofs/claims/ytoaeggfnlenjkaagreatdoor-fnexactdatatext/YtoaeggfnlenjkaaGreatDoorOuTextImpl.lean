/- The program's text of a value: what it holds, and lists. -/
import Derived.Test.YtoaeggfnlenjkaaGreatDoorOuPieces
import Derived.Test.YtoaeggfnlenjkaaGreatDoorOuTextSpec
import Derived.Maps.OwnSet
namespace Go.Proofs.YtoaeggfnlenjkaaGreatDoor.G
open Go.ChangeShapes Go.WideShapes Go.ChangeAt Go.RowKit
set_option linter.unusedVariables false

/-- The library's table of powers, whatever is done above the globals. -/
def Pow (w : World) : Prop := Lib.TabIs Tryz.prog w "internal/strconv.uint64pow10" .u64 Lib.pow10Tab
theorem gPow : ∃ g, Tryz.prog.globalNamed "internal/strconv.uint64pow10" = some g := by
  have h : (Tryz.prog.globalNamed "internal/strconv.uint64pow10").isSome = true := by kernel_rfl
  exact Option.isSome_iff_exists.1 h
theorem Pow.up {w w' : World} (h : Pow w) (hb : Below w.heap.size w w') : Pow w' := by
  obtain ⟨g, hg⟩ := gPow
  unfold Pow Lib.TabIs World.var? at h ⊢
  rw [hg] at h ⊢
  simp only [Option.bind_some] at h ⊢
  have pos : g < w.heap.size := by
    split at h
    · rename_i hh; exact (Array.getElem?_eq_some_iff.1 hh).1
    · cases h
  rw [hb.block g pos]
  exact h
theorem grow_below (w : World) (k : Nat) (os : Array Obj) : Below w.heap.size w (Sort.grow (w.drewN k) os) := by
  refine ⟨rfl, rfl, rfl, ?_, ?_⟩
  · show w.heap.size ≤ ((w.drewN k).heap ++ os).size
    have : (w.drewN k).heap = w.heap := rfl
    rw [this]; simp
  · intro i hi
    show ((w.drewN k).heap ++ os)[i]? = w.heap[i]?
    have : (w.drewN k).heap = w.heap := rfl
    rw [this, Array.getElem?_append_left hi]
theorem itoa_any (n : Int) (w : World) (h0 : -9223372036854775807 ≤ n) (h1 : n ≤ 9223372036854775807) (hp : Pow w) :
    Calls Tryz.prog 74 #[.int .i64 n] w fun e w' => e = .returned (.string ⟨(Lib.itoa n).toArray⟩) ∧ Below w.heap.size w w' := by
  refine (Tryz.strconv_Itoa n (by omega) h1 w hp).mono ?_
  rintro e w1 ⟨rfl, k, os, rfl⟩
  exact ⟨rfl, grow_below w k os⟩
/-- What a value holds, as the program hands it on. -/
def heldV (h : Oh) (sub : Ous) (a1 a2 : Option Addr) (c1 c2 : Nat) : Value :=
  if h.k = 1 then .iface 3 (.int .i64 h.n)
  else if h.k = 2 then .iface 9 (.string h.t)
  else if h.k = 3 then .iface 24 (.slice a2 sub.len c2)
  else if h.k = 4 then .iface 109 (.agg #[.slice a1 h.keys.length c1, .slice a2 sub.len c2])
  else .nilIface
set_option maxHeartbeats 4000000 in
theorem impl_held (h : Oh) (sub : Ous) (a1 a2 : Option Addr) (c1 c2 : Nat) (w : World) :
    Calls Tryz.prog 73 #[.agg #[.int .i64 h.k, .int .i64 h.n, .string h.t, .slice a1 h.keys.length c1, .slice a2 sub.len c2]] w fun e w' => e = .returned (heldV h sub a1 a2 c1 c2) ∧ Below w.heap.size w w' := by
  have B0 : Hid (Below w.heap.size w (w.alloc (.cells #[.int .i64 h.k, .int .i64 h.n, .string h.t, .slice a1 h.keys.length c1, .slice a2 sub.len c2] 26))) := (Below.refl _ _).alloc (Nat.le_refl _) _
  by_cases k1 : h.k = 1
  · have HF : Hid (heldV h sub a1 a2 c1 c2 = .iface 3 (.int .i64 h.n)) := by unfold Hid heldV; rw [if_pos k1]
    have k1' : (h.k == 1) = true := by simp [k1]
    clear k1
    go_enter Tryz.func73, Tryz.ntmps73
    go_wp2_with fail
    go_ret
    exact ⟨by rw [HF.out]; rfl, B0.out⟩
  have k1' : (h.k == 1) = false := beq_eq_false_iff_ne.2 k1
  by_cases k2 : h.k = 2
  · have HF : Hid (heldV h sub a1 a2 c1 c2 = .iface 9 (.string h.t)) := by unfold Hid heldV; rw [if_neg k1, if_pos k2]
    have k2' : (h.k == 2) = true := by simp [k2]
    clear k1 k2
    go_enter Tryz.func73, Tryz.ntmps73
    go_wp2_with fail
    go_ret
    exact ⟨by rw [HF.out]; rfl, B0.out⟩
  have k2' : (h.k == 2) = false := beq_eq_false_iff_ne.2 k2
  by_cases k3 : h.k = 3
  · have HF : Hid (heldV h sub a1 a2 c1 c2 = .iface 24 (.slice a2 sub.len c2)) := by unfold Hid heldV; rw [if_neg k1, if_neg k2, if_pos k3]
    have k3' : (h.k == 3) = true := by simp [k3]
    clear k1 k2 k3
    go_enter Tryz.func73, Tryz.ntmps73
    go_wp2_with fail
    go_ret
    exact ⟨by rw [HF.out]; rfl, B0.out⟩
  have k3' : (h.k == 3) = false := beq_eq_false_iff_ne.2 k3
  by_cases k4 : h.k = 4
  · have HF : Hid (heldV h sub a1 a2 c1 c2 = .iface 109 (.agg #[.slice a1 h.keys.length c1, .slice a2 sub.len c2])) := by unfold Hid heldV; rw [if_neg k1, if_neg k2, if_neg k3, if_pos k4]
    have k4' : (h.k == 4) = true := by simp [k4]
    clear k1 k2 k3 k4
    go_enter Tryz.func73, Tryz.ntmps73
    go_wp2_with fail
    go_ret
    exact ⟨by rw [HF.out]; rfl, B0.out⟩
  have k4' : (h.k == 4) = false := beq_eq_false_iff_ne.2 k4
  have HF : Hid (heldV h sub a1 a2 c1 c2 = .nilIface) := by unfold Hid heldV; rw [if_neg k1, if_neg k2, if_neg k3, if_neg k4]
  clear k1 k2 k3 k4
  go_enter Tryz.func73, Tryz.ntmps73
  go_wp2_with fail
  go_ret
  exact ⟨by rw [HF.out]; rfl, B0.out⟩
theorem info9s : (Tryz.prog.info? 9).map (fun i => (i.zero, i.size, i.bytes)) = some (some (.string ⟨#[]⟩), 1, 16) := by kernel_rfl
def LaidW (cs : Array Value) (ts : List ByteArray) (k : Nat) : Prop := ∀ i t, i < k → ts[i]? = some t → cs[i]? = some (.string t)
theorem LaidW.put {cs : Array Value} {ts : List ByteArray} {k : Nat} {t : ByteArray} (h : LaidW cs ts k) (hk : k < cs.size) (ht : ts[k]? = some t) : LaidW (cs.setIfInBounds k (.string t)) ts (k + 1) := by
  intro i t' hi ht'
  by_cases hik : i = k
  · subst hik
    rw [ht, Option.some.injEq] at ht'
    subst ht'
    simp [hk]
  · rw [Array.getElem?_setIfInBounds_ne (fun e => hik e.symm)]
    exact h i t' (by omega) ht'
theorem LaidW.row {cs : Array Value} {ts : List ByteArray} {B : Nat} {w : World} {e : TypeId} (h : LaidW cs ts ts.length) (hB : w.heap[B]? = some (.cells cs e (0, 0))) : KeRow 0 w.heap.size w (some ⟨B, 0, none⟩) ts := by
  refine .inr ⟨B, 0, rfl, Nat.zero_le _, (Array.getElem?_eq_some_iff.1 hB).1, fun i x hx => ?_⟩
  rw [row_rd hB]
  show cs[0 + i * 1]? = _
  rw [Nat.zero_add, Nat.mul_one]
  exact h i x (List.getElem?_eq_some_iff.1 hx).1 hx
theorem words_len : ∀ (l : Ous) (ob : Bool) (ks : List ByteArray), (wordsO ob ks l).length = l.len
  | .nil, _, _ => rfl
  | .cons h sub rest, ob, ks => by rw [wordsO, List.length_cons, words_len rest]; rfl
/-- The words from the k-th on. -/
def WordsAt (ob : Bool) (ks : List ByteArray) (l : Ous) (k : Nat) (rest : Ous) : Prop := (wordsO ob ks l).drop k = wordsO ob (ks.drop k) rest
theorem WordsAt.next {ob : Bool} {ks : List ByteArray} {l : Ous} {k : Nat} {h : Oh} {sub rest : Ous} (hw : WordsAt ob ks l k (.cons h sub rest)) : (wordsO ob ks l)[k]? = some (keyed ob (ks.getD k ⟨#[]⟩) (outT h sub)) ∧ WordsAt ob ks l (k + 1) rest := by
  unfold WordsAt at hw ⊢
  rw [words_cons] at hw
  constructor
  · have := congrArg List.head? hw
    rw [List.head?_drop] at this
    exact this
  · have := congrArg List.tail hw
    rw [List.tail_drop] at this
    exact this
def TextI (d : Nat) : Prop := ∀ (h : Oh) (sub : Ous) (a1 a2 : Option Addr) (c1 c2 : Nat) (w : World), KeRow 0 w.heap.size w a1 h.keys → OuRow 0 w.heap.size w a2 sub → h.keys.length ≤ c1 → outB d h sub = true → Pow w →
    Calls Tryz.prog 35 #[.agg #[.int .i64 h.k, .int .i64 h.n, .string h.t, .slice a1 h.keys.length c1, .slice a2 sub.len c2]] w fun e w' => e = .returned (.string (outT h sub)) ∧ Below w.heap.size w w'
theorem ok_out {d : Nat} {h : Oh} {sub rest : Ous} (hok : okO d (.cons h sub rest) = true) (hs : (Ous.cons h sub rest).size ≤ 4000) : outB d h sub = true ∧ okO d rest = true ∧ rest.size ≤ 4000 := by
  rw [okO_cons, Bool.and_eq_true] at hok
  simp only [Ous.size] at hs
  refine ⟨?_, hok.2, by omega⟩
  unfold outB; rw [hok.1, decide_eq_true (by omega)]; rfl
set_option maxHeartbeats 8000000 in
set_option maxRecDepth 40000 in
theorem impl_texts (d : Nat) (ih : TextI d) (l : Ous) (a : Option Addr) (c : Nat) (w : World) (hr : OuRow 0 w.heap.size w a l) (hok : okO d l = true) (hs : l.size ≤ 4000) (hp : Pow w) :
    Calls Tryz.prog 76 #[.slice a l.len c] w fun e w' => ∃ a', e = .returned (.slice a' l.len l.len) ∧ KeRow 0 w'.heap.size w' a' (wordsO false [] l) ∧ Below w.heap.size w w' := by
  have hl : l.len ≤ 4000 := Nat.le_trans l.len_le_size hs
  have HR : Hid (OuFrom 0 w.heap.size w a 0 l) := hr.from_
  have IH : Hid (TextI d) := ih
  have HP : Hid (∀ W, Below w.heap.size w W → Pow W) := fun W h => hp.up h
  have HOK : Hid (okO d l = true ∧ l.size ≤ 4000) := ⟨hok, hs⟩
  have HWL : Hid ((wordsO false [] l).length = l.len) := words_len _ _ _
  clear hr ih hp hok hs
  obtain ⟨i9, hi, hz, hsz, hby⟩ := info_parts info9s
  have hmk := run_make (P := Tryz.prog) w 23 9 i9 _ Tryz.underlying23 hi hz .i64 .i64 (l.len : Int) (l.len : Int) (by omega) (by omega) (by rw [hby]; omega) (by omega)
  rw [hsz, Int.toNat_natCast] at hmk
  clear hi hz hsz hby
  have hs0 := size_madeCells (Value.string ⟨#[]⟩).cells (l.len * 1)
  generalize madeCells (Value.string ⟨#[]⟩).cells (l.len * 1) = cs0 at *
  go_enter Tryz.func76, Tryz.ntmps76
  go_wp2_with fail
  go_loopw [11] (fun i w' => ∃ (k : Nat) (cs : Array Value) (rest : Ous), k + rest.len = l.len ∧ i = .int .i64 k ∧ Hid (Below w.heap.size w w') ∧ Hid (w'.heap[w.heap.size]? = some (.cells cs 9 (0, 0))) ∧ cs.size = l.len ∧ Hid (LaidW cs (wordsO false [] l) k) ∧ Hid (OuFrom 0 w.heap.size w a k rest) ∧ Hid (okO d rest = true ∧ rest.size ≤ 4000) ∧ Hid (WordsAt false [] l k rest)) (fun i _ => l.len - (intOf i).toNat)
  case atStart => exact ⟨0, cs0, l, by omega, rfl, (Below.refl _ _).alloc (Nat.le_refl _) _, heap_alloc_new _ _, by omega, fun i t h => by omega, HR, HOK, rfl⟩
  case round =>
    obtain ⟨wo, rfl⟩ : ∃ x, x = wr := ⟨_, rfl⟩
    obtain ⟨k, cs, rest, hk, rfl, HB, HH, hcs, HL, HF, HO, HW⟩ := hrel
    clear hmk hs0
    have hbz := HB.out.size
    cases rest with
    | nil =>
      simp only [Ous.len, Nat.add_zero] at hk
      have HFIN : Hid (KeRow 0 wo.heap.size wo (some ⟨w.heap.size, 0, none⟩) (wordsO false [] l)) := by
        have := HL.out
        rw [hk, ← HWL.out] at this
        exact this.row HH.out
      have hnl : ¬ (k : Int) < l.len := by omega
      clear hk
      go_wp2_with fail
      go_ret
      exact ⟨_, rfl, HFIN.out, HB.out⟩
    | cons h sub rest =>
      have hlt : (k : Int) < l.len := by simp only [Ous.len] at hk; omega
      obtain ⟨b, o, a1, c1, a2, c2, ha, _, hbl, d0, d1, d2, d3, d4, hc, p1, p2, _⟩ := OuFrom.step (OuFrom.keep HF.out (agree HB.out (Nat.le_refl _)))
      have HF2 : Hid (OuFrom 0 w.heap.size w a (k + 1) rest) := by
        obtain ⟨_, _, _, _, _, _, _, _, _, _, _, _, _, _, _, _, _, rf9⟩ := OuFrom.step HF.out
        exact rf9
      obtain ⟨o1, o2, o3⟩ := ok_out HO.out.1 HO.out.2
      have HO1 : Hid _ := o1
      have HO2 : Hid (okO d rest = true ∧ rest.size ≤ 4000) := ⟨o2, o3⟩
      obtain ⟨n1, n2⟩ := HW.out.next
      have HN1 : Hid ((wordsO false [] l)[k]? = some (outT h sub)) := by unfold Hid; simpa [keyed] using n1
      have HN2 : Hid _ := n2
      have hNw : w.heap.size < wo.heap.size := (Array.getElem?_eq_some_iff.1 HH.out).1
      have R1 : Hid (KeRow 0 wo.heap.size wo a1 h.keys ∧ OuRow 0 wo.heap.size wo a2 sub) := ⟨KeRow.wide p1 (Nat.le_refl _) hbz, OuRow.wide p2 (Nat.le_refl _) hbz⟩
      subst ha
      clear o1 o2 o3 n1 n2 p1 p2 HW HF HO
      obtain ⟨U, hU⟩ : ∃ X, X = wo.alloc (.cells #[.int .i64 h.k, .int .i64 h.n, .string h.t, .slice a1 h.keys.length c1, .slice a2 sub.len c2] 26) := ⟨_, rfl⟩
      have BU : Below wo.heap.size wo U := by rw [hU]; exact (Below.refl _ _).alloc (Nat.le_refl _) _
      have c0 : U.heap[wo.heap.size]? = some (.cells #[.int .i64 h.k, .int .i64 h.n, .string h.t, .slice a1 h.keys.length c1, .slice a2 sub.len c2] 26 (0, 0)) := by rw [hU]; exact heap_alloc_new _ _
      have x0 := fun o => row_cell c0 o
      have HBU : Hid _ := BU
      clear BU c0
      go_upto_region 5 with fail
      rw [← hU]
      clear hU d0 d1 d2 d3 d4
      go_wp2_with fail
      refine (IH.out h sub a1 a2 c1 c2 U (KeRow.up R1.out.1 HBU.out) (OuRow.up R1.out.2 HBU.out) hc HO1.out (HP.out _ (HB.out.trans (HBU.out.mono hbz)))).mono ?_
      rintro e w1 ⟨rfl, hb1⟩
      have HB1 : Hid (Below wo.heap.size wo w1) := HBU.out.trans (hb1.mono HBU.out.size)
      have HH1 : Hid (w1.heap[w.heap.size]? = some (.cells cs 9 (0, 0))) := (HB1.out.block _ hNw).trans HH.out
      have HBW : Hid (Below w.heap.size w w1) := HB.out.trans (HB1.out.mono hbz)
      obtain ⟨v0, hv0⟩ : ∃ v, w1.cell? ⟨w.heap.size, k, none⟩ = some v := ⟨_, (row_cell HH1.out _).trans (Array.getElem?_eq_getElem (show k < cs.size by omega))⟩
      have hf0 := row_frozen HH1.out k
      clear hb1 x0
      go_wp2_with fail
      exact ⟨⟨k + 1, _, rest, by simp only [Ous.len] at hk; omega, by first | rfl | go_num, HBW.out.setCell (Nat.le_refl _) _, row_set HH1.out _ _, by simp [hcs], LaidW.put HL.out (by omega) HN1.out, HF2, HO2, HN2⟩, by simp [intOf]; omega⟩
end Go.Proofs.YtoaeggfnlenjkaaGreatDoor.G
