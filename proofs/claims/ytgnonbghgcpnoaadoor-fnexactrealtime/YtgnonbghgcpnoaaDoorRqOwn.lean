/- Requests: counted, copied with memory of their own, held against each other, marked. -/
import Derived.Test.YtgnonbghgcpnoaaDoorBinds
import Derived.Test.YtgnonbghgcpnoaaDoorDocEq
import Derived.Test.YtgnonbghgcpnoaaDoorDocSzW
import Derived.Test.YtgnonbghgcpnoaaDoorDocToOwn
import Derived.Test.YtgnonbghgcpnoaaDoorDocMarkTwo
import Derived.Deep.RegionWith
namespace Go.Proofs.YtgnonbghgcpnoaaDoor
open Go.ChangeShapes Go.WideShapes Go.ChangeAt Go.RowKit
set_option linter.unusedVariables false

abbrev BnOwn := OwnR ArAt 4 81
/-- A request's lists: bounded; in memory of their own, one behind the other. -/
def RqBd (n : Nat) (l : List De) (v : List Ar) : Prop := DefsBd n l ∧ v.length ≤ n ∧ ∀ x ∈ v, ArBd n x
def RqSm (l : List De) (v : List Ar) : Prop := RqBd 1048576 l v ∧ G.cnt wtD l ≤ 1048576
def RqOwn (lo hi : Nat) (w : World) (a b : Option Addr) (l : List De) (v : List Ar) : Prop := ∃ m, lo ≤ m ∧ m ≤ hi ∧ DeOwn lo m w a l ∧ BnOwn m hi w b v
theorem RqOwn.le {lo hi : Nat} {w : World} {a b : Option Addr} {l : List De} {v : List Ar} (h : RqOwn lo hi w a b l v) : lo ≤ hi := by
  obtain ⟨m, e1, e2, _⟩ := h; omega
theorem RqOwn.keep {lo hi : Nat} {w w' : World} {a b : Option Addr} {l : List De} {v : List Ar} (h : RqOwn lo hi w a b l v) (hk : Agree lo hi w w') : RqOwn lo hi w' a b l v := by
  obtain ⟨m, e1, e2, h1, h2⟩ := h
  exact ⟨m, e1, e2, h1.keep fun g p q => hk g p (by omega), OwnR.keep h2 fun g p q => hk g (by omega) q⟩
theorem RqOwn.widen {lo hi hi' : Nat} {w : World} {a b : Option Addr} {l : List De} {v : List Ar} (h : RqOwn lo hi w a b l v) (e : hi ≤ hi') : RqOwn lo hi' w a b l v := by
  obtain ⟨m, e1, e2, h1, h2⟩ := h
  exact ⟨m, e1, by omega, h1, OwnR.wide h2 (Nat.le_refl _) e⟩
theorem RqOwn.wide {lo hi lo' : Nat} {w : World} {a b : Option Addr} {l : List De} {v : List Ar} (h : RqOwn lo hi w a b l v) (e : lo' ≤ lo) : RqOwn lo' hi w a b l v := by
  obtain ⟨m, e1, e2, h1, h2⟩ := h
  exact ⟨m, by omega, e2, DeOwn.wide h1 e (Nat.le_refl _), h2⟩
theorem RqOwn.rows {lo hi : Nat} {w : World} {a b : Option Addr} {l : List De} {v : List Ar} (h : RqOwn lo hi w a b l v) : DeRow lo hi w a l ∧ ArRow lo hi w b v := by
  obtain ⟨m, e1, e2, h1, h2⟩ := h
  exact ⟨DeRow.wide h1.row (Nat.le_refl _) e2, Row.wide (OwnR.row h2) e1 (Nat.le_refl _)⟩
set_option maxHeartbeats 2000000 in
theorem sz_req_w (a b : Option Addr) (c d : Nat) (l : List De) (v : List Ar) (n : Int) (w : World) (hr : DeRow 0 w.heap.size w a l) (hv : ArRow 0 w.heap.size w b v) (hbd : DefsBd maxLen l) (hl : v.length ≤ maxLen) (ht : ∀ x ∈ v, ArBd maxLen x) (h0 : 0 ≤ n) (h1 : n ≤ 1048576) :
    Calls Tryd.prog 35 #[.agg #[.slice a l.length c, .slice b v.length d], .int .i64 n] w fun e w' => ∃ m, e = .returned (.int .i64 m) ∧ Sz n m (RqSm l v) ∧ Below w.heap.size w w' := by
  have B0 : Hid (Below w.heap.size w (w.alloc (.cells #[.slice a l.length c, .slice b v.length d] 42))) := (Below.refl _ _).alloc (Nat.le_refl _) _
  have K0 : Hid (∀ W0, Below w.heap.size w W0 → DeRow 0 W0.heap.size W0 a l) := fun W0 hB => DeRow.up hr hB
  have J0 : Hid (∀ W0, Below w.heap.size w W0 → ArRow 0 W0.heap.size W0 b v) := fun W0 hB => Row.up hv hB
  have HD : Hid (DefsBd maxLen l) := hbd
  have HT : Hid (∀ x ∈ v, ArBd maxLen x) := ht
  have HLN : Hid (v.length ≤ maxLen) := hl
  clear hr hv hbd ht hl
  go_enter Tryd.func35, Tryd.ntmps35
  go_wp2_with fail
  refine (sz_doc_w a c l n _ (K0.out _ B0.out) HD.out h0 h1).mono ?_
  rintro e w1 ⟨m, rfl, hm, hb1⟩
  have HM : Hid (Sz n m (DefsBd 1048576 l ∧ (G.cnt wtD l : Int) ≤ n - m)) := hm
  have q1 : Hid (Below w.heap.size w w1) := B0.out.trans (hb1.mono (by simp))
  have c1 := fun o => (hb1.cell (p := ⟨w.heap.size, o, none⟩) (by simp)).trans (row_cell (heap_alloc_new _ _) o)
  have z1 : w.heap.size + 1 ≤ w1.heap.size := by have := hb1.size; simpa using this
  clear hm hb1
  by_cases hneg : m < 0
  · go_wp2_with fail
    go_ret
    exact ⟨-1, rfl, Sz.neg h0, q1.out⟩
  have hmm := HM.out.1
  go_wp2_with fail
  refine (sz_binds b d v m _ (J0.out _ q1.out) HLN.out HT.out (by omega) (by omega)).mono ?_
  rintro e w2 ⟨m2, rfl, hm, hb2⟩
  have HN : Hid (Sz m m2 (v.length ≤ 1048576 ∧ ∀ x ∈ v, ArBd 1048576 x)) := hm
  have q2 : Hid (Below w.heap.size w w2) := q1.out.trans (hb2.mono (by omega))
  clear hm hb2
  by_cases hneg2 : m2 < 0
  · go_wp2_with fail
    go_ret
    exact ⟨-1, rfl, Sz.neg h0, q2.out⟩
  go_wp2_with fail
  go_ret
  refine ⟨m2, rfl, ⟨by have := HN.out.1; omega, by omega, fun _ => ⟨⟨(HM.out.2.2 (by omega)).1, HN.out.2.2 (by omega)⟩, by have := (HM.out.2.2 (by omega)).2; omega⟩⟩, q2.out⟩

set_option maxHeartbeats 1000000 in
theorem to_binds_o (a : Option Addr) (c : Nat) (l : List Ar) (w : World) (hr : ArRow 0 w.heap.size w a l) (hl : l.length ≤ 1048576) :
    Calls Tryd.prog 47 #[.slice a l.length c] w fun e w' => ∃ a' c', e = .returned (.slice a' l.length c') ∧ BnOwn w.heap.size w'.heap.size w' a' l ∧ Below w.heap.size w w' := by
  have HR : Hid (ArRow 0 w.heap.size w a l) := hr
  clear hr
  obtain ⟨i27, hi, hz, hsz, hby⟩ := info_bn
  have hmk := run_make (P := Tryd.prog) w 50 81 i27 _ Tryd.underlying50 hi hz .i64 .i64 (l.length : Int) (l.length : Int) (by omega) (by omega) (by rw [hby]; omega) (by omega)
  rw [hsz, Int.toNat_natCast] at hmk
  clear hi hz hsz hby
  have hs0 := size_madeCells (Value.agg #[.string ⟨#[]⟩, .int .i64 0, .int .i64 0, .string ⟨#[]⟩]).cells (l.length * 4)
  generalize madeCells (Value.agg #[.string ⟨#[]⟩, .int .i64 0, .int .i64 0, .string ⟨#[]⟩]).cells (l.length * 4) = cs0 at *
  go_enter Tryd.func47, Tryd.ntmps47
  go_wp2_with fail
  go_loopw [4] (fun i w' => ∃ (k : Nat) (cs : Array Value), k ≤ l.length ∧ i = .int .i64 k ∧ Below w.heap.size w w' ∧ Hid (w'.heap[w.heap.size]? = some (.cells cs 81 (0, 0))) ∧ cs.size = l.length * 4 ∧ Hid (LaidR ArAt 4 cs l k)) (fun i _ => l.length - (intOf i).toNat)
  case atStart => exact ⟨0, cs0, by omega, rfl, (Below.refl _ _).alloc (Nat.le_refl _) _, heap_alloc_new _ _, hs0, fun i x h => by omega⟩
  case round =>
    rename_i wr
    obtain ⟨k, cs, hk, rfl, hb, HH, hcs, HL⟩ := hrel
    clear hmk hs0
    by_cases hlt : k < l.length
    · obtain ⟨b, o, ha, _, hbl, c0, c1, c2, c3⟩ := (HR.out.keep (Below.agree hb (Nat.le_refl _))).cells_ar k hlt
      subst ha
      go_wp2_with fail
      refine (to_bind l[k] _).mono ?_
      rintro e w1 ⟨rfl, hb1⟩
      have hN : w.heap.size < wr.heap.size := (Array.getElem?_eq_some_iff.1 HH.out).1
      have HH1 : Hid (w1.heap[w.heap.size]? = some (.cells cs 81 (0, 0))) := (hb1.block _ hN).trans HH.out
      obtain ⟨v0, hv0⟩ : ∃ v, w1.cell? ⟨w.heap.size, k * 4, none⟩ = some v := ⟨_, (row_cell HH1.out _).trans (Array.getElem?_eq_getElem (by omega))⟩
      obtain ⟨v1, hv1⟩ : ∃ v, w1.cell? ⟨w.heap.size, k * 4 + 1, none⟩ = some v := ⟨_, (row_cell HH1.out _).trans (Array.getElem?_eq_getElem (by omega))⟩
      obtain ⟨v2, hv2⟩ : ∃ v, w1.cell? ⟨w.heap.size, k * 4 + 2, none⟩ = some v := ⟨_, (row_cell HH1.out _).trans (Array.getElem?_eq_getElem (by omega))⟩
      obtain ⟨v3, hv3⟩ : ∃ v, w1.cell? ⟨w.heap.size, k * 4 + 3, none⟩ = some v := ⟨_, (row_cell HH1.out _).trans (Array.getElem?_eq_getElem (by omega))⟩
      have hf0 := row_frozen HH1.out (k * 4)
      have hf1 := row_frozen HH1.out (k * 4 + 1)
      have hf2 := row_frozen HH1.out (k * 4 + 2)
      have hf3 := row_frozen HH1.out (k * 4 + 3)
      clear c0 c1 c2 c3
      have qb := hb.trans (hb1.mono hb.size)
      go_wp2_with fail
      exact ⟨⟨k + 1, put4 cs (k * 4) _ _ _ _, by omega, by go_num, (((qb.setCell (Nat.le_refl _) _).setCell (Nat.le_refl _) _).setCell (Nat.le_refl _) _).setCell (Nat.le_refl _) _, row_set (row_set (row_set (row_set HH1.out _ _) _ _) _ _) _ _, by rw [put4_size]; exact hcs, HL.out.put_ar hlt hcs⟩, by simp [intOf]; omega⟩
    · go_wp2_with fail
      go_ret
      obtain rfl : k = l.length := by omega
      exact ⟨_, _, rfl, .inr ⟨w.heap.size, cs, rfl, Nat.le_refl _, (Array.getElem?_eq_some_iff.1 HH.out).1, HH.out, by omega, fun i x hx => HL.out i x (List.getElem?_eq_some_iff.1 hx).1 hx⟩, hb⟩

set_option maxHeartbeats 2000000 in
theorem to_req_o (a b : Option Addr) (c d : Nat) (l : List De) (v : List Ar) (w : World) (hr : DeRow 0 w.heap.size w a l) (hv : ArRow 0 w.heap.size w b v) (hbd : RqBd 1048576 l v) :
    Calls Tryd.prog 37 #[.agg #[.slice a l.length c, .slice b v.length d]] w fun e w' => ∃ a' c' b' d', e = .returned (.agg #[.slice a' l.length c', .slice b' v.length d']) ∧ RqOwn w.heap.size w'.heap.size w' a' b' l v ∧ Below w.heap.size w w' := by
  have K0 : Hid (∀ W0, Below w.heap.size w W0 → DeRow 0 W0.heap.size W0 a l) := fun W0 hB => DeRow.up hr hB
  have J0 : Hid (∀ W0, Below w.heap.size w W0 → ArRow 0 W0.heap.size W0 b v) := fun W0 hB => Row.up hv hB
  have HD : Hid (DefsBd 1048576 l) := hbd.1
  have hl := hbd.2.1
  clear hr hv hbd
  go_enter Tryd.func37, Tryd.ntmps37
  go_wp2_with fail
  refine (to_doc_o a c l _ (K0.out _ ?b0) HD.out).mono ?_
  case b0 => repeat (first | exact Below.refl _ _ | refine Below.setCell ?_ (by simp <;> omega) _ | refine Below.alloc ?_ (by simp <;> omega) _)
  rintro e w1 ⟨a1, d1, rfl, r1, hb1⟩
  have hz1 : w.heap.size + 3 ≤ w1.heap.size := by have := hb1.size; simp at this; omega
  have A1 : Hid (DeOwn (w.heap.size + 3) w1.heap.size w1 a1 l) := DeOwn.wide r1 (by simp <;> omega) (Nat.le_refl _)
  have q1 : Hid (Below w.heap.size w w1) := by
    refine Below.trans ?_ (hb1.mono (by simp <;> omega))
    repeat (first | exact Below.refl _ _ | refine Below.setCell ?_ (by simp <;> omega) _ | refine Below.alloc ?_ (by simp <;> omega) _)
  have k10 := fun o => hb1.cell (p := ⟨w.heap.size, o, none⟩) (by simp <;> omega)
  have k11 := fun o => hb1.cell (p := ⟨w.heap.size + 1, o, none⟩) (by simp <;> omega)
  have k12 := fun o => hb1.cell (p := ⟨w.heap.size + 1 + 1, o, none⟩) (by simp <;> omega)
  have j10 := fun o => hb1.frozen (p := ⟨w.heap.size, o, none⟩) (by simp <;> omega)
  have j11 := fun o => hb1.frozen (p := ⟨w.heap.size + 1, o, none⟩) (by simp <;> omega)
  have j12 := fun o => hb1.frozen (p := ⟨w.heap.size + 1 + 1, o, none⟩) (by simp <;> omega)
  have h11 : w1.heap[w.heap.size + 1]? = some (.cells #[.slice none 0 0, .slice none 0 0] 52 (0, 0)) := by
    rw [hb1.block _ (by simp), Below.heap_alloc _ _ _ (by simp)]
    have := heap_alloc_new (w.alloc (.cells #[.slice a l.length c, .slice b v.length d] 42)) (.cells #[.slice none 0 0, .slice none 0 0] 52)
    simpa using this
  have e10 := row_cell h11 0
  have e11 := row_cell h11 1
  clear h11
  clear hb1 r1
  go_wp2_with fail
  refine (to_binds_o b d v _ (J0.out _ ?b1) hl).mono ?_
  case b1 => repeat (first | exact q1.out | refine Below.setCell ?_ (by simp <;> omega) _ | refine Below.alloc ?_ (by simp <;> omega) _)
  rintro e w2 ⟨a2, d2, rfl, r2, hb2⟩
  have hz2 : w1.heap.size ≤ w2.heap.size := by have := hb2.size; simp at this; omega
  have A2 : Hid (BnOwn w1.heap.size w2.heap.size w2 a2 v) := OwnR.wide r2 (by simp <;> omega) (Nat.le_refl _)
  have B1 : Hid (DeOwn (w.heap.size + 3) w1.heap.size w2 a1 l) := by
    refine DeOwn.keep A1.out (fun g h1 h2 => ?_)
    have := hb2.block g (by simp <;> omega)
    rw [this]
    repeat rw [heap_set _ _ _ _ _ (by omega)]
  have q2 : Hid (Below w.heap.size w w2) := by
    refine Below.trans ?_ (hb2.mono (by simp <;> omega))
    repeat (first | exact q1.out | refine Below.setCell ?_ (by simp <;> omega) _ | refine Below.alloc ?_ (by simp <;> omega) _)
  have k20 := fun o => hb2.cell (p := ⟨w.heap.size, o, none⟩) (by simp <;> omega)
  have k21 := fun o => hb2.cell (p := ⟨w.heap.size + 1, o, none⟩) (by simp <;> omega)
  have j20 := fun o => hb2.frozen (p := ⟨w.heap.size, o, none⟩) (by simp <;> omega)
  have j21 := fun o => hb2.frozen (p := ⟨w.heap.size + 1, o, none⟩) (by simp <;> omega)
  have k22 := fun o => hb2.cell (p := ⟨w.heap.size + 1 + 1, o, none⟩) (by simp <;> omega)
  have j22 := fun o => hb2.frozen (p := ⟨w.heap.size + 1 + 1, o, none⟩) (by simp <;> omega)
  clear hb2 r2 A1
  go_wp2_with fail
  have e20 : w2.cell? ⟨w.heap.size + 1, 0, none⟩ = some (.slice none 0 0) :=
    (k21 0).trans ((World.cell?_of_block (a := ⟨w.heap.size + 1, 0, none⟩) (heap_set _ _ _ _ _ (by show w.heap.size + 1 ≠ w.heap.size + 1 + 1; omega))).trans e10)
  have e21 : w2.cell? ⟨w.heap.size + 1, 1, none⟩ = some (.slice none 0 0) :=
    (k21 1).trans ((World.cell?_of_block (a := ⟨w.heap.size + 1, 1, none⟩) (heap_set _ _ _ _ _ (by show w.heap.size + 1 ≠ w.heap.size + 1 + 1; omega))).trans e11)
  refine bodyPost_ret (v := .agg #[.slice a1 l.length d1, .slice a2 v.length d2]) (by simp [results, Tryd.results37, go_sem, e20, e21]) rfl ⟨a1, d1, a2, d2, rfl, ?_⟩
  have G : ∀ W' : World, W'.heap.size = w2.heap.size → Agree (w.heap.size + 3) w2.heap.size w2 W' → Below w.heap.size w W' → RqOwn w.heap.size W'.heap.size W' a1 a2 l v ∧ Below w.heap.size w W' :=
    fun W' hw ha hB => ⟨⟨w1.heap.size, by omega, by omega, DeOwn.wide (DeOwn.keep B1.out fun g h1 h2 => ha g h1 (by omega)) (by omega) (Nat.le_refl _), OwnR.wide (OwnR.keep A2.out fun g h1 h2 => ha g (by omega) h2) (Nat.le_refl _) (by omega)⟩, hB⟩
  refine G _ (by simp) ?_ ?_
  · intro g h1 h2
    repeat rw [heap_set _ _ _ _ _ (by omega)]
  · repeat (refine Below.setCell ?_ (by simp <;> omega) _)
    exact q2.out

set_option maxHeartbeats 2000000 in
theorem eq_req (a a' b b' : Option Addr) (c c' d d' : Nat) (l : List De) (v : List Ar) (w : World) (hr : DeRow 0 w.heap.size w a l) (hr' : DeRow 0 w.heap.size w a' l) (hv : ArRow 0 w.heap.size w b v) (hv' : ArRow 0 w.heap.size w b' v) (hbd : RqBd 1048576 l v) :
    Calls Tryd.prog 39 #[.agg #[.slice a l.length c, .slice b v.length d], .agg #[.slice a' l.length c', .slice b' v.length d']] w fun e w' => e = .returned (.bool true) ∧ Below w.heap.size w w' := by
  have K0 : Hid (∀ W0, Below w.heap.size w W0 → DeRow 0 W0.heap.size W0 a l ∧ DeRow 0 W0.heap.size W0 a' l) := fun W0 hB => ⟨DeRow.up hr hB, DeRow.up hr' hB⟩
  have J0 : Hid (∀ W0, Below w.heap.size w W0 → ArRow 0 W0.heap.size W0 b v ∧ ArRow 0 W0.heap.size W0 b' v) := fun W0 hB => ⟨Row.up hv hB, Row.up hv' hB⟩
  have HD : Hid (DefsBd 1048576 l) := hbd.1
  have hl := hbd.2.1
  clear hr hr' hv hv' hbd
  obtain ⟨V0, hV0⟩ : ∃ V, V = (w.alloc (.cells #[.slice a l.length c, .slice b v.length d] 52)).alloc (.cells #[.slice a' l.length c', .slice b' v.length d'] 52) := ⟨_, rfl⟩
  have B0 : Hid (Below w.heap.size w V0) := by rw [hV0]; exact ((Below.refl _ _).alloc (Nat.le_refl _) _).alloc (by simp) _
  have z0 : w.heap.size + 2 ≤ V0.heap.size := by rw [hV0]; simp
  have x0 : Hid (V0.heap[w.heap.size]? = some (.cells #[.slice a l.length c, .slice b v.length d] 52 (0, 0))) := by
    rw [Hid, hV0, Below.heap_alloc _ _ _ (by simp)]; exact heap_alloc_new _ _
  have y0 : Hid (V0.heap[w.heap.size + 1]? = some (.cells #[.slice a' l.length c', .slice b' v.length d'] 52 (0, 0))) := by
    rw [Hid, hV0]
    have := heap_alloc_new (w.alloc (.cells #[.slice a l.length c, .slice b v.length d] 52)) (.cells #[.slice a' l.length c', .slice b' v.length d'] 52)
    simpa using this
  go_enter Tryd.func39, Tryd.ntmps39
  have cx0 := fun o => row_cell x0.out o
  have cy0 := fun o => row_cell y0.out o
  go_wp2_with fail
  rw [← hV0]
  clear hV0
  refine (eq_doc a a' c c' l _ (K0.out _ B0.out).1 (K0.out _ B0.out).2 HD.out).mono ?_
  rintro e w1 ⟨rfl, hb1⟩
  have q1 : Hid (Below w.heap.size w w1) := B0.out.trans (hb1.mono (by omega))
  have cx1 := fun o => (hb1.cell (p := ⟨w.heap.size, o, none⟩) (show w.heap.size < V0.heap.size by omega)).trans (cx0 o)
  have cy1 := fun o => (hb1.cell (p := ⟨w.heap.size + 1, o, none⟩) (show w.heap.size + 1 < V0.heap.size by omega)).trans (cy0 o)
  clear hb1 cx0 cy0 x0 y0
  go_wp2_with fail
  refine (eq_binds b b' d d' v _ (J0.out _ q1.out).1 (J0.out _ q1.out).2 hl).mono ?_
  rintro e w2 ⟨rfl, hb2⟩
  have q2 : Hid (Below w.heap.size w w2) := q1.out.trans (hb2.mono (by have := q1.out.size; omega))
  go_wp2_with fail
  go_ret
  exact ⟨rfl, q2.out⟩

set_option maxHeartbeats 4000000 in
set_option maxRecDepth 40000 in
theorem mark_binds (a : Option Addr) (c : Nat) (l : List Ar) (lo hi K : Nat) (kk : Int) (w : World) (hkk : kk = (K : Int)) (ho : BnOwn lo hi w a l) (hhi : hi ≤ w.heap.size) (hk : 0 < K) (hb : ((K + 4 * l.length : Nat) : Int) ≤ 4611686018427387904) :
    Calls Tryd.prog 28 #[.slice a l.length c, .int .i64 kk] w fun e w' => ∃ r : Int, e = .returned (.int .i64 r) ∧ r = ((K + 4 * l.length : Nat) : Int) ∧ BnOwn lo hi w' a (mkAr K l) ∧ KeptR lo hi w w' := by
  have HO : Hid (BnOwn lo hi w a (G.mix (mkAr K l) l 0)) := by rw [G.mix_zero]; exact ho
  clear ho
  go_enter Tryd.func28, Tryd.ntmps28
  go_wp2_with fail
  go_loopw [1, 5] (fun s i w' => ∃ (n : Nat), n ≤ l.length ∧ i = .int .i64 n ∧ s = .int .i64 ((K + 4 * n : Nat) : Int) ∧ Hid (BnOwn lo hi w' a (G.mix (mkAr K l) l n)) ∧ Hid (KeptR lo hi w w')) (fun _ i _ => l.length - (intOf i).toNat)
  case atStart => exact ⟨0, by omega, rfl, by rw [hkk]; rfl, HO, KeptR.refl _ _ _⟩
  case round =>
    obtain ⟨n, hn1, rfl, rfl, HW, HK⟩ := hrel
    by_cases hlt : n < l.length
    case neg =>
      have e : n = l.length := by omega
      have HN : Hid (BnOwn lo hi wr a (mkAr K l)) := by
        have h2 := HW.out
        rw [e, G.mix_all (mkAr_len _ _)] at h2
        exact h2
      subst e
      clear HW HO
      go_wp2_with fail
      go_ret
      exact ⟨_, rfl, rfl, HN.out, HK.out⟩
    have HX : Hid ((mkAr K l)[n]? = some (fAr (K + 4 * n) l[n])) := mkAr_get _ _ _ hlt
    have hq : ((K + 4 * n : Nat) : Int) + 4 ≤ 4611686018427387904 := by omega
    have hq0 : 0 < K + 4 * n := by omega
    have hq9 : K + 4 * n + 4 = K + 4 * (n + 1) := by omega
    have HQ9 : Hid _ := hq9
    clear hq9
    rcases HW.out with h0 | ⟨b, cs, rfl, f1, f2, hh, hcs, hel⟩
    · have h9 := congrArg List.length h0
      rw [G.mix_len (mkAr_len _ _) hn1] at h9
      simp only [List.length_nil] at h9
      omega
    rw [G.mix_len (mkAr_len _ _) hn1] at hcs
    have hbl : b < wr.heap.size := (Array.getElem?_eq_some_iff.1 hh).1
    have HL : Hid _ := hel
    obtain ⟨w0, rfl⟩ : ∃ x, x = wr := ⟨_, rfl⟩
    generalize K + 4 * n = q at *
    have hl9 : (l.length : Int) ≤ 4611686018427387904 := by omega
    clear hel HW HO hb
    go_wp2_with fail
    refine (G.mark_text_int _ _ (by omega) (by omega)).mono ?_
    rintro e w1 ⟨rfl, hb1⟩
    have H1 : Hid (w1.heap[b]? = some (.cells cs 81 (0, 0))) := (hb1.block _ hbl).trans hh
    have HK1 : Hid (KeptR lo hi w w1) := HK.out.trans (KeptR.of hb1)
    obtain ⟨u0, hv0⟩ : ∃ v, w1.cell? ⟨b, n * 4, none⟩ = some v := ⟨_, (row_cell H1.out _).trans (Array.getElem?_eq_getElem (by omega))⟩
    obtain ⟨u1, hv1⟩ : ∃ v, w1.cell? ⟨b, n * 4 + 1, none⟩ = some v := ⟨_, (row_cell H1.out _).trans (Array.getElem?_eq_getElem (by omega))⟩
    obtain ⟨u2, hv2⟩ : ∃ v, w1.cell? ⟨b, n * 4 + 2, none⟩ = some v := ⟨_, (row_cell H1.out _).trans (Array.getElem?_eq_getElem (by omega))⟩
    have hf0 := row_frozen H1.out (n * 4)
    have hf1 := row_frozen H1.out (n * 4 + 1)
    have hf2 := row_frozen H1.out (n * 4 + 2)
    have hz1 := hb1.size
    clear hb1 hh
    go_wp2_with fail
    refine (G.mark_text_int _ _ (by omega) (by omega)).mono ?_
    rintro e w2 ⟨rfl, hb2⟩
    have H2 : Hid (w2.heap[b]? = _) := (hb2.block _ (by simp; omega)).trans (row_set (row_set (row_set H1.out (n * 4) _) (n * 4 + 1) _) (n * 4 + 2) _)
    have HK2 : Hid (KeptR lo hi w w2) := (((HK1.out.set (p := ⟨b, n * 4, none⟩) f1 f2 _).set (p := ⟨b, n * 4 + 1, none⟩) f1 f2 _).set (p := ⟨b, n * 4 + 2, none⟩) f1 f2 _).trans (KeptR.of hb2)
    obtain ⟨u3, hv3⟩ : ∃ v, w2.cell? ⟨b, n * 4 + 3, none⟩ = some v := ⟨_, (row_cell H2.out _).trans (Array.getElem?_eq_getElem (by simp; omega))⟩
    have hf3 := row_frozen H2.out (n * 4 + 3)
    clear hb2
    go_wp2_with fail
    refine ⟨⟨n + 1, by omega, by go_num, ?_, ?_, ?_⟩, by simp [intOf]; omega⟩
    · exact val_int (by have := HQ9.out; omega)
    · refine OwnR.step4 (fun _ _ _ _ => ArAt.loc) (mkAr_len _ _) hlt HX.out f1 f2 hcs HL.out (row_set H2.out _ _) (ArAt.new (by omega) ?_ ?_ ?_ ?_)
      · first | exact val_mkn (by omega) | exact val_mk (by omega)
      · exact val_int (by omega)
      · exact val_int (by omega)
      · first | exact val_mkn (by omega) | exact val_mk (by omega)
    · exact HK2.out.set (p := ⟨b, n * 4 + 3, none⟩) f1 f2 _

end Go.Proofs.YtgnonbghgcpnoaaDoor
