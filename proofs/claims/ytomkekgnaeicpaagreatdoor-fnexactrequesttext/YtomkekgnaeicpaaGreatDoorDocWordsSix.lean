/- A document's text: the program's side and the specification's, with their codes. -/
import Derived.Test.YtomkekgnaeicpaaGreatDoorDocWordsFive
namespace Go.Proofs.YtomkekgnaeicpaaGreatDoor
open Go.ChangeShapes Go.WideShapes Go.ChangeAt Go.RowKit
set_option linter.unusedVariables false

def prS (l : List De) : ByteArray := if docB l = true then bl (docP l) else ⟨#[]⟩
def prC (l : List De) : Int := if docB l = true then 0 else 1
theorem pr_yes {l : List De} (h : docB l = true) : prS l = bl (docP l) ∧ prC l = 0 := by unfold prS prC; rw [h]; exact ⟨rfl, rfl⟩
theorem pr_no {l : List De} (h : docB l = false) : prS l = ⟨#[]⟩ ∧ prC l = 1 := by unfold prS prC; rw [h]; exact ⟨rfl, rfl⟩
theorem ret_pr {a b : ByteArray} {c d : Int} (h1 : a = b) (h2 : c = d) : Ending.returned (.tuple #[.string a, .int .i64 c]) = .returned (.tuple #[.string b, .int .i64 d]) := by rw [h1, h2]
theorem sizeL_mem {l : List De} {x : De} (h : x ∈ l) : x.sels.size ≤ sizeL l := by
  obtain ⟨k, hk, rfl⟩ := List.getElem_of_mem h
  have h1 := sizeL_take hk
  have h2 := sizeL_le l (k + 1)
  omega
theorem doc_all {l : List De} (h : docB l = true) : l.length ≤ 6 ∧ ∀ x ∈ l, DeGood x ∧ x.sels.size ≤ 60 := by
  unfold docB at h
  simp only [Bool.and_eq_true, decide_eq_true_eq, List.all_eq_true] at h
  refine ⟨h.1.1.2, fun x hx => ⟨def_good (h.1.2 x hx), ?_⟩⟩
  have := sizeL_mem hx
  omega
theorem doc_some {l : List De} (h : docB l = true) : 1 ≤ l.length := by
  unfold docB at h
  simp only [Bool.and_eq_true, decide_eq_true_eq] at h
  exact h.1.1.1
theorem docT_join (l : List De) : docT l = Lib.joinTail [32] (l.map defP) := by
  induction l with
  | nil => rfl
  | cons x l ih => simp [docT, Lib.joinTail, ih]
theorem join_docP {l : List De} (h : l ≠ []) : Lib.join (l.map defP) [32] = docP l := by
  cases l with
  | nil => exact absurd rfl h
  | cons x l => rw [List.map_cons, Lib.join_cons, docP, docT_join]
theorem docP_len {l : List De} (hg : ∀ x ∈ l, DeGood x ∧ x.sels.size ≤ 60) : (docT l).length ≤ 61001 * l.length := by
  induction l with
  | nil => simp [docT]
  | cons x l ih =>
    have h1 := defP_len (hg x (by simp)).1 (hg x (by simp)).2
    have h2 := ih (fun y hy => hg y (by simp [hy]))
    simp only [docT, List.length_cons, List.length_append]
    omega
theorem docP_len2 {l : List De} (hg : ∀ x ∈ l, DeGood x ∧ x.sels.size ≤ 60) : (docP l).length ≤ 61001 * l.length := by
  cases l with
  | nil => simp [docP]
  | cons x l =>
    have h := docP_len hg
    simp only [docT, docP, List.length_cons, List.length_append] at h ⊢
    omega

set_option maxHeartbeats 4000000 in
set_option maxRecDepth 40000 in
theorem impl_printDoc (a : Option Addr) (c : Nat) (l : List De) (w : World) (hr : DeRow 0 w.heap.size w a l) (hb : DefsBd 1048576 l) (hp : Pow w) :
    Calls Tryz.prog 16 #[.agg #[.slice a l.length c]] w fun e w' => e = .returned (.tuple #[.string (prS l), .int .i64 (prC l)]) ∧ Below w.heap.size w w' := by
  have B0 : Hid (Below w.heap.size w (w.alloc (.cells #[.slice a l.length c] 33))) := (Below.refl _ _).alloc (Nat.le_refl _) _
  have K3 : Hid (∀ W0, Below w.heap.size w W0 → DeRow 0 W0.heap.size W0 a l ∧ Pow W0) := fun W0 hB => ⟨DeRow.up hr hB, hp.up hB⟩
  have HX : Hid (DefsBd 1048576 l) := hb
  clear hr hb hp
  cases h1 : docB l
  · have HN : Hid (prS l = ⟨#[]⟩ ∧ prC l = 1) := pr_no h1
    go_enter Tryz.func16, Tryz.ntmps16
    go_wp2_with fail
    refine (impl_doc a c l _ (K3.out _ B0.out).1 HX.out.1 HX.out.2).mono ?_
    rw [h1]
    rintro e w1 ⟨rfl, hb1⟩
    have Q1 : Hid (Below w.heap.size w w1) := B0.out.trans (hb1.mono (by simp))
    clear hb1 h1
    go_wp2_with fail
    go_ret2
    exact ⟨ret_pr HN.out.1.symm HN.out.2.symm, Q1.out⟩
  have HN : Hid (prS l = bl (docP l) ∧ prC l = 0) := pr_yes h1
  have HA : Hid (∀ x ∈ l, DeGood x ∧ x.sels.size ≤ 60) := (doc_all h1).2
  have hl6 := (doc_all h1).1
  have hl1 := doc_some h1
  go_enter Tryz.func16, Tryz.ntmps16
  go_wp2_with fail
  refine (impl_doc a c l _ (K3.out _ B0.out).1 HX.out.1 HX.out.2).mono ?_
  rw [h1]
  rintro e w1 ⟨rfl, hb1⟩
  have Q1 : Hid (Below w.heap.size w w1) := B0.out.trans (hb1.mono (by simp))
  have z1 : w.heap.size + 1 ≤ w1.heap.size := by have := hb1.size; simpa using this
  have c1 : w1.cell? ⟨w.heap.size, 0, none⟩ = some (.slice a l.length c) := (hb1.cell (p := ⟨w.heap.size, 0, none⟩) (by simp)).trans (row_cell (heap_alloc_new _ _) 0)
  have cp := fun o => (World.cell?_alloc_past (w := w1) o w.heap.size 0 (by omega)).trans c1
  clear hb1 h1
  obtain ⟨i9, hi, hz, hsz, hby⟩ := info_parts info9d
  have hmk := run_make (P := Tryz.prog) w1 65 9 i9 _ Tryz.underlying65 hi hz .i64 .i64 (l.length : Int) (l.length : Int) (by omega) (by omega) (by rw [hby]; omega) (by omega)
  rw [hsz, Int.toNat_natCast] at hmk
  clear hi hz hsz hby
  have hs0 := size_madeCells (Value.string ⟨#[]⟩).cells (l.length * 1)
  generalize madeCells (Value.string ⟨#[]⟩).cells (l.length * 1) = cs0 at *
  go_wp2_with fail
  go_loopw [17] (fun i w' => ∃ (k : Nat) (cs : Array Value), k ≤ l.length ∧ i = .int .i64 k ∧ Below w1.heap.size w1 w' ∧ Hid (w'.heap[w1.heap.size]? = some (.cells cs 9 (0, 0))) ∧ cs.size = l.length ∧ Hid (LaidS cs (l.map defP) k)) (fun i _ => l.length - (intOf i).toNat)
  case atStart => exact ⟨0, cs0, by omega, rfl, (Below.refl _ _).alloc (Nat.le_refl _) _, heap_alloc_new _ _, by omega, fun i t h => by omega⟩
  case round =>
    rename_i wr
    obtain ⟨k, cs, hk, rfl, hb, HH, hcs, HL⟩ := hrel
    clear hmk hs0 c1 cp
    have hbz := hb.size
    have hNw : w1.heap.size < wr.heap.size := (Array.getElem?_eq_some_iff.1 HH.out).1
    have HB : Hid (Below w.heap.size w wr) := Q1.out.trans (hb.mono (by omega))
    by_cases hlt : k < l.length
    · obtain ⟨b, o, a3, c3, ha, _, hbl, d0, d1, d2, d3, r3⟩ := DeRow.cells (K3.out _ HB.out).1 k hlt
      subst ha
      have K4 : Hid (SelRow 0 wr.heap.size wr a3 l[k].sels) := r3
      have HP4 : Hid (Pow wr) := (K3.out _ HB.out).2
      have HG : Hid (DeGood l[k] ∧ l[k].sels.size ≤ 60) := HA.out _ (List.getElem_mem hlt)
      clear r3
      go_wp2_with fail
      refine (impl_defT l[k] a3 c3 _ (SelRow.up K4.out ?b0) HG.out.1 HG.out.2 (HP4.out.up ?b0)).mono ?_
      case b0 => exact (Below.refl _ _).alloc (Nat.le_refl _) _
      rintro e w2 ⟨rfl, hb2⟩
      have q2 : Below wr.heap.size wr w2 := ((Below.refl _ _).alloc (Nat.le_refl _) _).trans (hb2.mono (by simp))
      have HH2 : w2.heap[w1.heap.size]? = some (.cells cs 9 (0, 0)) := (q2.block w1.heap.size hNw).trans HH.out
      obtain ⟨v0, hv0⟩ : ∃ v, w2.cell? ⟨w1.heap.size, k, none⟩ = some v := ⟨_, (row_cell HH2 _).trans (Array.getElem?_eq_getElem (by omega))⟩
      have hf0 := row_frozen HH2 k
      have HH3 : Hid _ := HH2
      have HW : Hid (Below w1.heap.size w1 w2) := hb.trans (q2.mono (by omega))
      clear hb2 q2 HH2
      go_wp2_with fail
      go_roundw
      case rel => exact ⟨k + 1, _, by omega, by go_num, HW.out.setCell (Nat.le_refl _) _, row_set HH3.out _ _, by simp [hcs], LaidS.put HL.out (by omega) (by simp [hlt]) rfl⟩
      case measure => simp [intOf]; omega
    · obtain rfl : k = l.length := by omega
      have hxl : (l.map fun x => bl (defP x)).length = l.length := by simp
      have hmm : (l.map fun x => bl (defP x)).map (·.data.toList) = l.map defP := by
        rw [List.map_map]
        exact List.map_congr_left (fun x _ => nl_bl (defP x))
      have hne : l ≠ [] := fun e => by rw [e] at hl1; simp at hl1
      have hjl : (Lib.join (l.map defP) [32]).length ≤ 400000 := by
        rw [join_docP hne]
        have := docP_len2 HA.out
        omega
      have HJ := Tryz.strings_Join w1.heap.size 0 l.length (l.map fun x => bl (defP x)) ⟨#[32]⟩ wr (fun j x hx => by
        have hj : j < l.length := by have := (List.getElem?_eq_some_iff.1 hx).1; omega
        rw [Nat.zero_add, row_cell HH.out]
        refine HL.out j (defP l[j]) hj (by simp [hj]) |>.trans ?_
        rw [List.getElem?_map, List.getElem?_eq_getElem hj] at hx
        simpa using hx) hNw (by omega) (by omega) (by rw [hmm]; show (Lib.join (l.map defP) [32]).length ≤ _; omega)
      rw [hmm, hxl] at HJ
      have HT : Hid ((⟨(Lib.join (l.map defP) [32]).toArray⟩ : ByteArray) = prS l) := by
        unfold Hid
        rw [HN.out.1, join_docP hne]; rfl
      have HJ2 : Hid _ := HJ
      clear HJ hmm hxl hjl hk hcs HL HH hne
      go_wp2_with fail
      refine Calls.mono HJ2.out ?_
      rintro e w9 ⟨rfl, hb9⟩
      have Q9 : Hid (Below w.heap.size w w9) := HB.out.trans (hb9.mono HB.out.size)
      clear hb9
      go_wp2_with fail
      go_ret2
      exact ⟨ret_pr HT.out HN.out.2.symm, Q9.out⟩
end Go.Proofs.YtomkekgnaeicpaaGreatDoor
