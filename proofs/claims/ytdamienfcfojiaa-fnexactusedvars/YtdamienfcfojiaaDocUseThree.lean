/- UsedVars: the program's side. -/
import Derived.Test.YtdamienfcfojiaaDocUseTwo
import Derived.Test.YtdamienfcfojiaaDocSzW
namespace Go.Proofs.Ytdamienfcfojiaa
open Go.ChangeShapes Go.WideShapes Go.ChangeAt Go.RowKit
set_option linter.unusedVariables false

theorem vw_wt : ∀ l : Sels, vwS l ≤ wtS l
  | .nil => Nat.le_refl _
  | .cons h sub rest => by have := vw_wt sub; have := vw_wt rest; simp only [vwS, wtS]; omega
theorem varsL_len : ∀ l : List De, (varsL l).length ≤ G.cnt wtD l
  | [] => Nat.le_refl _
  | x :: l => by
    have h1 := varsL_len l
    have h2 := varsS_len x.sels
    have h3 := vw_wt x.sels
    unfold varsL at *
    rw [List.flatMap_cons, List.length_append]
    simp only [G.cnt, wtD]; omega
/-- What UsedVars tells. -/
def UsR (l : List De) (ns : List ByteArray) (y : Int) : Prop := (docB l = false ∧ ns = [] ∧ y = 1) ∨ (docB l = true ∧ ns = addAll [] (varsL l) ∧ y = 0)
theorem UsR.one {l : List De} {x x' : List ByteArray} {y y' : Int} (h : UsR l x y) (h' : UsR l x' y') : x = x' ∧ y = y' := by
  rcases h with ⟨a1, rfl, rfl⟩ | ⟨a1, rfl, rfl⟩ <;> rcases h' with ⟨b1, rfl, rfl⟩ | ⟨b1, rfl, rfl⟩ <;> first | exact ⟨rfl, rfl⟩ | (exfalso; rw [a1] at b1; exact Bool.noConfusion b1)
theorem UsR.len {l : List De} {ns : List ByteArray} {y : Int} (h : UsR l ns y) : ns.length ≤ G.cnt wtD l := by
  rcases h with ⟨a1, rfl, rfl⟩ | ⟨a1, rfl, rfl⟩
  · exact Nat.zero_le _
  · have h1 := addAll_len (varsL l) []
    have h2 := varsL_len l
    simp only [List.length_nil] at h1; omega
def SaysS (lo : Nat) (w : World) (R : List ByteArray → Int → Prop) (e : Ending) : Prop := ∃ ns y a c, e = .returned (.tuple #[.slice a ns.length c, .int .i64 y]) ∧ R ns y ∧ StOwn lo w.heap.size w a ns

set_option maxHeartbeats 4000000 in
set_option maxRecDepth 40000 in
theorem impl_used (a : Option Addr) (c : Nat) (l : List De) (w : World) (hr : DeRow 0 w.heap.size w a l) (hb : DefsBd 1048576 l) (hwt : G.cnt wtD l ≤ 1048576) :
    Calls Try.prog 7 #[.agg #[.slice a l.length c]] w fun e w' => SaysS w.heap.size w' (UsR l) e ∧ Below w.heap.size w w' := by
  have K1 : Hid (∀ W0, Below w.heap.size w W0 → DeRow 0 w.heap.size W0 a l) := fun W0 hB => DeRow.keep hr (Below.agree hB (Nat.le_refl _))
  have HB : Hid (DefsBd 1048576 l) := hb
  have hl : l.length ≤ 1048576 := hb.1
  clear hr hb
  go_enter Try.func7, Try.ntmps7
  go_wp2_with fail
  refine (impl_doc a c l _ (DeRow.wide (K1.out _ ?b0) (Nat.le_refl _) (by simp)) HB.out.1 HB.out.2).mono ?_
  case b0 => exact (Below.refl _ _).alloc (Nat.le_refl _) _
  rintro e w1 ⟨rfl, hb1⟩
  have z1 : w.heap.size + 1 ≤ w1.heap.size := by have := hb1.size; simpa using this
  have Q1 : Hid (Below w.heap.size w w1) := ((Below.refl _ _).alloc (Nat.le_refl _) _).trans (hb1.mono (by simp))
  have k10 := fun o => hb1.cell (p := ⟨w.heap.size, o, none⟩) (by simp)
  clear hb1
  cases hdb : docB l with
  | false =>
    have HN : Hid (UsR l [] 1) := .inl ⟨hdb, rfl, rfl⟩
    clear hdb
    go_wp2_with fail
    go_ret2
    exact ⟨⟨[], 1, _, _, rfl, HN.out, .inl rfl⟩, Q1.out⟩
  | true =>
  have HDB : Hid (docB l = true) := hdb
  clear hdb
  have c0 : w1.cell? ⟨w.heap.size, 0, none⟩ = some (.slice a l.length c) := (k10 0).trans (row_cell (heap_alloc_new _ _) 0)
  have cA := fun ob ob' => (((((Below.refl w1.heap.size w1).alloc (Nat.le_refl _) ob).alloc (by simp) ob')).cell (p := ⟨w.heap.size, 0, none⟩) (show w.heap.size < w1.heap.size by omega)).trans c0
  clear k10
  go_wp2_with fail
  obtain ⟨W, hW⟩ : ∃ W, W = (w1.alloc (.cells #[.slice none 0 0] 26)).alloc (.cells #[.func (.func 19) #[] #[.pointer (some ⟨w1.heap.size, 0, none⟩)]] 49) := ⟨_, rfl⟩
  rw [← hW]
  have zW : W.heap.size = w1.heap.size + 2 := by rw [hW]; simp
  have B0 : Hid (Below w1.heap.size w1 W) := by rw [hW]; exact ((Below.refl _ _).alloc (Nat.le_refl _) _).alloc (by simp) _
  have CW : Hid (Ctx (fun g => g ≤ w1.heap.size + 1) w1.heap.size W) := by
    refine ⟨fun g hg => by omega, fun g hg => hg, ?_⟩
    unfold UseAt
    rw [hW]
    have := heap_alloc_new (w1.alloc (.cells #[.slice none 0 0] 26)) (.cells #[.func (.func 19) #[] #[.pointer (some ⟨w1.heap.size, 0, none⟩)]] 49)
    simpa using this
  have NW : Hid (Names (fun g => g ≤ w1.heap.size + 1) w1.heap.size W []) := by
    refine ⟨.slice none 0 0, ?_, World.ownsRow_nil _ _ _ _, fun g hg => by cases hg⟩
    rw [hW, Below.heap_alloc _ _ _ (by simp)]
    exact heap_alloc_new _ _
  clear hW cA c0
  go_loopw [15] (fun i w' => ∃ (k : Nat), k ≤ l.length ∧ i = .int .i64 k ∧ Hid (KeptP (fun g => g ≤ w1.heap.size + 1) w1.heap.size W w') ∧ Hid (Names (fun g => g ≤ w1.heap.size + 1) w1.heap.size w' (addAll [] (varsL (l.take k))))) (fun i _ => l.length - (intOf i).toNat)
  case atStart => exact ⟨0, by omega, rfl, KeptP.refl _ _ _, NW⟩
  case round =>
    obtain ⟨k, hk, rfl, HK, HNr⟩ := hrel
    have Cr : Hid (Ctx (fun g => g ≤ w1.heap.size + 1) w1.heap.size wr) := CW.out.keep HK.out
    have hzr := HK.out.size
    have Br : Hid (Below w1.heap.size w1 wr) := B0.out.trans (CW.out.below HK.out)
    by_cases hlt : k < l.length
    case neg =>
      have hN := HNr.out
      rw [List.take_of_length_le (by omega)] at hN
      obtain ⟨v, hv, hown, hnp⟩ := hN
      have hG := World.ownsRow.lt hown
      obtain ⟨a9, c9, rfl, hst⟩ := StOwn.of hown
      have HST : Hid (StOwn w.heap.size wr.heap.size wr a9 (addAll [] (varsL l))) := by
        rcases hst with h | ⟨b, cs, rfl, f1, f2, f3, f4, f5⟩
        · exact .inl h
        · have := hnp b rfl
          exact .inr ⟨b, cs, rfl, by omega, f2, f3, f4, f5⟩
      have cv := row_cell hv 0
      have HU : Hid (UsR l (addAll [] (varsL l)) 0) := .inr ⟨HDB.out, rfl, rfl⟩
      have QR : Hid (Below w.heap.size w wr) := Q1.out.trans (Br.out.mono (by omega))
      generalize addAll [] (varsL l) = ns at *
      clear hv hown hnp hG hst HNr
      go_wp2_with fail
      go_ret2
      exact ⟨⟨ns, 0, _, _, rfl, HU.out, HST.out⟩, QR.out⟩
    obtain ⟨b, o, a3, c3, ha, _, hbl, d0, d1, d2, d3, r3⟩ := DeRow.cells (K1.out _ (Q1.out.trans (Br.out.mono (by omega)))) k hlt
    subst ha
    have R3 : Hid (SelRow 0 w1.heap.size wr a3 l[k].sels) := SelRow.wide r3 (Nat.le_refl _) (by omega)
    obtain ⟨x1, x2, x3, x4⟩ := HB.out.2 _ (List.getElem_mem hlt)
    have X4 : Hid (SelsBd 1048576 l[k].sels) := x4
    have HLL : Hid ((addAll [] (varsL (l.take k))).length + vwS l[k].sels ≤ 2097152) := by
      have q1 := addAll_len (varsL (l.take k)) []
      have q2 := varsL_len (l.take k)
      have q3 := G.cnt_take wtD hlt
      have q4 := G.cnt_le wtD l (k + 1)
      have q5 := vw_wt l[k].sels
      simp only [List.length_nil] at q1
      have q6 : wtD l[k] = 1 + wtS l[k].sels := rfl
      unfold Hid; omega
    have HV2 : Hid (addAll [] (varsL (l.take (k + 1))) = addAll (addAll [] (varsL (l.take k))) (varsS l[k].sels)) := by rw [Hid, varsL_take hlt, addAll_append]
    generalize addAll [] (varsL (l.take k)) = ps at *
    clear r3 x4
    go_wp2_with fail
    refine (each_sels l[k].sels (fun g => g ≤ w1.heap.size + 1) a3 c3 w1.heap.size ps _ (Names.keep HNr.out ?b0) (Ctx.keep Cr.out (KeptP.of ?b1 Cr.out.lt)) (SelRow.keep R3.out (Below.agree ?b2 (Nat.le_refl _))) x3 X4.out HLL.out).mono ?_
    case b0 => exact (Below.refl _ _).alloc (Nat.le_refl _) _
    case b1 => exact (Below.refl _ _).alloc (Nat.le_refl _) _
    case b2 => exact ((Below.refl _ _).alloc (Nat.le_refl _) _).mono (by omega)
    rintro e w2 ⟨rfl, hN2, hK2⟩
    have N2 : Hid (Names (fun g => g ≤ w1.heap.size + 1) w1.heap.size w2 (addAll ps (varsS l[k].sels))) := hN2
    have K2 : Hid (KeptP (fun g => g ≤ w1.heap.size + 1) w1.heap.size W w2) := HK.out.trans ((KeptP.of ((Below.refl _ _).alloc (Nat.le_refl _) _) Cr.out.lt).trans hK2)
    clear hN2 hK2 d0 d1 d2 d3
    go_wp2_with fail
    exact ⟨⟨k + 1, by omega, by go_num, K2, by rw [HV2.out]; exact N2.out⟩, by simp [intOf]; omega⟩
end Go.Proofs.Ytdamienfcfojiaa
