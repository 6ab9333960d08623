/- Rows that a call owns: the blocks that they lie in, each once; marks written into them. -/
import Derived.Test.YtkjndghkimnjeaaGreatBnVal
import Derived.Test.YtkjndghkimnjeaaGreatDocSzTwo
import Derived.Test.YtkjndghkimnjeaaGreatDocSpec
import Derived.Laws.EntriesVeiled
import Derived.Test.YtkjndghkimnjeaaGreatGRegionFive
import Derived.Lib.ItoaNum
import Derived.Lib.ItoaLen
namespace Go.Proofs.YtkjndghkimnjeaaGreat
open Go.ChangeShapes Go.WideShapes Go.ChangeAt Go.RowKit
set_option linter.unusedVariables false

def argFitB (l : List Ar) (x : Ar) : Bool := (bval x.v l).2 && !((bval x.v l).1.k == 2)
def dirFitB (l : List Ar) (d : Di) : Bool := (bval d.v l).1.k == 2
def hdFitB (l : List Ar) (h : Hd) : Bool := h.args.all (argFitB l) && h.dirs.all (dirFitB l)
def fitS (l : List Ar) : Sels → Bool
  | .nil => true
  | .cons h sub rest => hdFitB l h && fitS l sub && fitS l rest
def fitD (l : List Ar) (ds : List De) : Bool := ds.all fun x => fitS l x.sels
/-- What VarsFit tells. -/
def varsFit (ds : List De) (l : List Ar) : Int × Int :=
  if 4096 < l.length then (0, 2)
  else if !(docB ds && bindB l) then (0, 1)
  else (if fitD l ds = true then 0 else 14, 0)
theorem lk_none {t : ByteArray} : ∀ {l : List Ar} {u : Va}, lk l t = (u, false) → u = va0
  | [], u, h => by simp only [lk, Prod.mk.injEq, and_true] at h; exact h.symm
  | x :: l, u, h => by
    simp only [lk] at h
    split at h
    · simp at h
    · exact lk_none h
theorem bval_none {v u : Va} {l : List Ar} (h : bval v l = (u, false)) : u = va0 := by
  by_cases h4 : v.k = 4
  · rw [bval_var h4] at h; exact lk_none h
  · rw [bval_not h4] at h; simp at h
theorem fit_args_no {l : List Ar} {h : Hd} {k : Nat} (hk : k < h.args.length) (hf : argFitB l h.args[k] = false) : false = hdFitB l h := by
  unfold hdFitB; rw [all_no_b hk hf]; rfl
theorem fit_dirs_no {l : List Ar} {h : Hd} {k : Nat} (hk : k < h.dirs.length) (hf : dirFitB l h.dirs[k] = false) : false = hdFitB l h := by
  unfold hdFitB; rw [all_no_b hk hf]; simp

set_option maxHeartbeats 4000000 in
set_option maxRecDepth 40000 in
theorem impl_fitIn (h : Hd) (n : Nat) (a1 a2 a3 : Option Addr) (c1 c2 c3 : Nat) (a : Option Addr) (c : Nat) (l : List Ar) (w : World) (r1 : ArRow 0 w.heap.size w a1 h.args) (r2 : DiRow 0 w.heap.size w a2 h.dirs) (hr : ArRow 0 w.heap.size w a l) (hl : l.length ≤ 1048576) (hb : HdBd 1048576 h) :
    Calls Tryz.prog 69 #[.agg #[.int .i64 h.k, .string h.al, .string h.nm, .slice a1 h.args.length c1, .slice a2 h.dirs.length c2, .slice a3 n c3], .slice a l.length c] w fun e w' => e = .returned (.bool (hdFitB l h)) ∧ Below w.heap.size w w' := by
  obtain ⟨x1, x2, x3, x4, x5, x6⟩ := hb
  have HR : Hid (∀ W0, Below w.heap.size w W0 → ArRow 0 W0.heap.size W0 a l) := fun W0 hB => Row.up hr hB
  have HA : Hid (ArRow 0 w.heap.size w a1 h.args) := r1
  have HD : Hid (DiRow 0 w.heap.size w a2 h.dirs) := r2
  clear hr r1 r2 x4 x6
  go_enter Tryz.func69, Tryz.ntmps69
  go_wp2_with fail
  obtain ⟨W, hW⟩ : ∃ W, W = w.alloc (.cells #[.int .i64 h.k, .string h.al, .string h.nm, .slice a1 h.args.length c1, .slice a2 h.dirs.length c2, .slice a3 n c3] 115) := ⟨_, rfl⟩
  rw [← hW]
  have zW : W.heap.size = w.heap.size + 1 := by rw [hW]; simp
  have B0 : Hid (Below w.heap.size w W) := by rw [hW]; exact (Below.refl _ _).alloc (Nat.le_refl _) _
  have A0 : Hid (W.heap[w.heap.size]? = some (.cells #[.int .i64 h.k, .string h.al, .string h.nm, .slice a1 h.args.length c1, .slice a2 h.dirs.length c2, .slice a3 n c3] 115 (0, 0))) := by rw [Hid, hW]; exact heap_alloc_new _ _
  clear hW
  go_loopw [16] (fun i w' => ∃ (k : Nat), k ≤ h.args.length ∧ i = .int .i64 k ∧ Below W.heap.size W w' ∧ Hid ((h.args.take k).all (argFitB l) = true)) (fun i _ => h.args.length - (intOf i).toNat)
  case atStart => exact ⟨0, by omega, rfl, Below.refl _ _, rfl⟩
  case round =>
    obtain ⟨k, hk, rfl, hb, HK⟩ := hrel
    have HBR : Hid _ := hb
    have QR : Hid (Below w.heap.size w wr) := B0.out.trans (hb.mono (by omega))
    have zr := hb.size
    have r0 : wr.heap[w.heap.size]? = _ := (hb.block w.heap.size (by omega)).trans A0.out
    have q0 := fun o => row_cell r0 o
    clear hb r0
    by_cases hlt : k < h.args.length
    case neg =>
      have HAL : Hid (h.args.all (argFitB l) = true) := by have := HK.out; rwa [List.take_of_length_le (by omega)] at this
      clear HK
      go_wp2_with fail
      obtain ⟨V, rfl⟩ : ∃ x, x = wr := ⟨_, rfl⟩
      clear q0
      go_loopw [38] (fun i w' => ∃ (j : Nat), j ≤ h.dirs.length ∧ i = .int .i64 j ∧ Below w.heap.size w w' ∧ Hid ((h.dirs.take j).all (dirFitB l) = true)) (fun i _ => h.dirs.length - (intOf i).toNat)
      case atStart => exact ⟨0, by omega, rfl, QR.out, rfl⟩
      case round =>
        obtain ⟨j, hj, rfl, hb, HJ⟩ := hrel
        have QJ : Hid (Below w.heap.size w wr) := hb
        have zj := hb.size
        clear hb
        by_cases hjt : j < h.dirs.length
        case neg =>
          have HN : Hid (true = hdFitB l h) := by
            have := HJ.out
            rw [List.take_of_length_le (by omega)] at this
            unfold Hid hdFitB; rw [HAL.out, this]; rfl
          go_wp2_with fail
          go_ret
          exact ⟨ret_bool HN.out, QJ.out⟩
        obtain ⟨b5, o5, ha, _, hbl, d0, d1, d2, d3⟩ := (HD.out.keep (Below.agree QJ.out (Nat.le_refl _))).cells_di j hjt
        subst ha
        obtain ⟨u, b', hu⟩ : ∃ u b', bval h.dirs[j].v l = (u, b') := ⟨_, _, rfl⟩
        have HU : Hid (bval h.dirs[j].v l = (u, b')) := hu
        have HT : Hid (dirFitB l h.dirs[j] = (u.k == 2)) := by unfold Hid dirFitB; rw [hu]
        clear hu
        go_wp2_with fail
        refine (impl_bound h.dirs[j].v a c l u b' _ (HR.out _ ?b0) hl HU.out).mono ?_
        case b0 => exact QJ.out.alloc (by omega) _
        rintro e w1 ⟨rfl, hb1⟩
        have z1 : wr.heap.size + 1 ≤ w1.heap.size := by have := hb1.size; simpa using this
        have Q1 : Hid (Below w.heap.size w w1) := (QJ.out.alloc (by omega) _).trans (hb1.mono (by simp <;> omega))
        clear hb1 d0 d1 d2 d3
        cases h1 : (u.k == 2)
        case true =>
          go_wp2_with fail
          exact ⟨⟨j + 1, by omega, by go_num, Q1.out.alloc (by omega) _, all_takeB hjt HJ.out (by rw [HT.out, h1])⟩, by simp [intOf]; omega⟩
        case false =>
          go_wp2_with fail
          go_ret
          exact ⟨ret_bool (fit_dirs_no hjt (by rw [HT.out, h1])), Q1.out.alloc (by omega) _⟩
    obtain ⟨b5, o5, ha, _, hbl, d0, d1, d2, d3⟩ := (HA.out.keep (Below.agree QR.out (Nat.le_refl _))).cells_ar k hlt
    subst ha
    obtain ⟨u, b', hu⟩ : ∃ u b', bval h.args[k].v l = (u, b') := ⟨_, _, rfl⟩
    have HU : Hid (bval h.args[k].v l = (u, b')) := hu
    have HT : Hid (argFitB l h.args[k] = (b' && !(u.k == 2))) := by unfold Hid argFitB; rw [hu]
    clear hu
    go_wp2_with fail
    refine (impl_bound h.args[k].v a c l u b' _ (HR.out _ ?b0) hl HU.out).mono ?_
    case b0 => exact QR.out.alloc (by omega) _
    rintro e w1 ⟨rfl, hb1⟩
    have z1 : wr.heap.size + 1 ≤ w1.heap.size := by have := hb1.size; simpa using this
    have B1 : Hid (Below W.heap.size W w1) := (HBR.out.alloc (by omega) _).trans (hb1.mono (by simp <;> omega))
    have Q1 : Hid (Below w.heap.size w w1) := (QR.out.alloc (by omega) _).trans (hb1.mono (by simp <;> omega))
    clear hb1 d0 d1 d2 d3 q0
    cases b' <;> cases h1 : (u.k == 2)
    all_goals
      go_wp2_with fail
      first
      | (exact ⟨⟨k + 1, by omega, by go_num, B1.out.alloc (by omega) _, all_takeB hlt HK.out (by rw [HT.out, h1]; rfl)⟩, by simp [intOf]; omega⟩)
      | (go_ret; exact ⟨ret_bool (fit_args_no hlt (by rw [HT.out, h1]; rfl)), Q1.out.alloc (by omega) _⟩)

/-- What is there stays, but for one block. -/
structure Kp (B : Nat) (w w' : World) : Prop where
  below : Below B w w'
  block : ∀ g, g < w.heap.size → g ≠ B → w'.heap[g]? = w.heap[g]?
theorem Kp.refl (B : Nat) (w : World) : Kp B w w := ⟨Below.refl _ _, fun _ _ _ => rfl⟩
theorem Kp.trans {B : Nat} {w w1 w2 : World} (h : Kp B w w1) (h' : Kp B w1 w2) : Kp B w w2 :=
  ⟨h.below.trans h'.below, fun g hg hn => (h'.block g (Nat.lt_of_lt_of_le hg h.below.size) hn).trans (h.block g hg hn)⟩
theorem Kp.of {B : Nat} {w w' : World} (h : Below w.heap.size w w') (hB : B ≤ w.heap.size) : Kp B w w' := ⟨h.mono hB, fun g hg _ => h.block g hg⟩
theorem Kp.set (B o : Nat) (w : World) (v : Value) : Kp B w (w.setCell ⟨B, o, none⟩ v) := ⟨Below.setCell (p := ⟨B, o, none⟩) (Below.refl B w) (Nat.le_refl B) v, fun g _ hn => Below.heap_setCell _ _ _ _ hn⟩
def st (b : Bool) (y : Int) : Int := if b = true then y else 14
theorem st_and (a b : Bool) (y : Int) : st (a && b) y = st b (st a y) := by cases a <;> cases b <;> rfl
abbrev At1 (w : World) (B : Nat) (y : Int) : Prop := w.heap[B]? = some (.cells #[.int .i64 y] 3 (0, 0))
abbrev AtV (w : World) (B : Nat) (a : Option Addr) (n c : Nat) : Prop := w.heap[B]? = some (.cells #[.slice a n c] 34 (0, 0))

set_option maxHeartbeats 4000000 in
set_option maxRecDepth 40000 in
theorem look_fit (h : Hd) (n : Nat) (a1 a2 a3 : Option Addr) (c1 c2 c3 : Nat) (Bv Bc : Nat) (y : Int) (a : Option Addr) (c : Nat) (l : List Ar) (w : World) (hv : AtV w Bv a l.length c) (hc : At1 w Bc y) (hne : Bv < Bc)
    (r1 : ArRow 0 Bv w a1 h.args) (r2 : DiRow 0 Bv w a2 h.dirs) (hr : ArRow 0 Bv w a l) (hl : l.length ≤ 1048576) (hb : HdBd 1048576 h) :
    Calls Tryz.prog 68 #[.agg #[.int .i64 h.k, .string h.al, .string h.nm, .slice a1 h.args.length c1, .slice a2 h.dirs.length c2, .slice a3 n c3], .pointer (some ⟨Bv, 0, none⟩), .pointer (some ⟨Bc, 0, none⟩)] w fun e w' =>
      e = .returned (.tuple #[]) ∧ At1 w' Bc (st (hdFitB l h) y) ∧ Kp Bc w w' := by
  have hz : Bc < w.heap.size := (Array.getElem?_eq_some_iff.1 hc).1
  have HC : Hid (At1 w Bc y) := hc
  have v0 := row_cell hv 0
  have vA := fun ob => (((Below.refl w.heap.size w).alloc (Nat.le_refl _) ob).cell (p := ⟨Bv, 0, none⟩) (show Bv < w.heap.size by omega)).trans v0
  have K1 : Hid (∀ W0, Below w.heap.size w W0 → ArRow 0 W0.heap.size W0 a1 h.args ∧ DiRow 0 W0.heap.size W0 a2 h.dirs ∧ ArRow 0 W0.heap.size W0 a l) := fun W0 hB =>
    ⟨Row.up (Row.wide r1 (Nat.le_refl _) (by omega)) hB, Row.up (Row.wide r2 (Nat.le_refl _) (by omega)) hB, Row.up (Row.wide hr (Nat.le_refl _) (by omega)) hB⟩
  have HB : Hid (HdBd 1048576 h) := hb
  clear hv hc r1 r2 hr hb v0
  go_enter Tryz.func68, Tryz.ntmps68
  go_wp2_with fail
  have B0 : Hid (Below w.heap.size w (w.alloc (.cells #[.int .i64 h.k, .string h.al, .string h.nm, .slice a1 h.args.length c1, .slice a2 h.dirs.length c2, .slice a3 n c3] 115))) := (Below.refl _ _).alloc (Nat.le_refl _) _
  refine (impl_fitIn h n a1 a2 a3 c1 c2 c3 a c l _ (K1.out _ B0.out).1 (K1.out _ B0.out).2.1 (K1.out _ B0.out).2.2 hl HB.out).mono ?_
  rintro e w1 ⟨rfl, hb1⟩
  have b1 : Below w.heap.size w w1 := B0.out.trans (hb1.mono (by simp))
  have Q1 : Hid (Below w.heap.size w w1) := b1
  have C1 : Hid (At1 w1 Bc y) := (b1.block Bc hz).trans HC.out
  have cc := fun o => row_cell C1.out o
  have cf := fun o => row_frozen C1.out o
  clear hb1 b1 vA
  cases hf : hdFitB l h
  · go_wp2_with fail
    go_end0
    exact ⟨rfl, by rw [hf]; have := row_set C1.out 0 (.int .i64 14); simpa [st] using this, (Kp.of Q1.out (by omega)).trans (Kp.set Bc 0 _ _)⟩
  · go_wp2_with fail
    go_end0
    exact ⟨rfl, by rw [hf]; exact C1.out, Kp.of Q1.out (by omega)⟩

def EachFit (l : List Ar) (s : Sels) : Prop := ∀ (a' : Option Addr) (c' Bv Bc : Nat) (y : Int) (a : Option Addr) (c : Nat) (w : World), AtV w Bv a l.length c → At1 w Bc y → Bv < Bc → SelRow 0 Bv w a' s → ArRow 0 Bv w a l → s.len ≤ 1048576 → SelsBd 1048576 s → l.length ≤ 1048576 →
    Calls Tryz.prog 67 #[.slice a' s.len c', .func (.func 68) #[] #[.pointer (some ⟨Bv, 0, none⟩), .pointer (some ⟨Bc, 0, none⟩)]] w fun e w' => e = .returned (.tuple #[]) ∧ At1 w' Bc (st (fitS l s) y) ∧ Kp Bc w w'
set_option maxHeartbeats 4000000 in
set_option maxRecDepth 40000 in
theorem each_fit (l : List Ar) (s : Sels) : EachFit l s := by
  induction hN : s.size using Nat.strongRecOn generalizing s with
  | _ N ih =>
  subst hN
  intro a' c' Bv Bc y a c w hv hc hne hs hr hn hbd hl
  have IH : Hid (∀ sub : Sels, sub.size < s.size → EachFit l sub) := fun sub hsub => ih sub.size hsub sub rfl
  have HS : Hid (SelFrom 0 Bv w a' 0 s) := hs.from_
  have HR : Hid (ArRow 0 Bv w a l) := hr
  have HB : Hid (SelsBd 1048576 s) := hbd
  have HV : Hid (AtV w Bv a l.length c) := hv
  have HC : Hid (At1 w Bc y) := hc
  have hz : Bc < w.heap.size := (Array.getElem?_eq_some_iff.1 hc).1
  clear hs hr ih hbd hv hc
  go_enter Tryz.func67, Tryz.ntmps67
  go_wp2_with fail
  go_loopw [8] (fun i w' => ∃ (k : Nat) (y' : Int) (rest : Sels), Hid (s.len = k + rest.len) ∧ i = .int .i64 k ∧ Hid (Kp Bc w w') ∧ Hid (rest.size ≤ s.size) ∧ Hid (SelsBd 1048576 rest) ∧ Hid (SelFrom 0 Bv w a' k rest) ∧ Hid (At1 w' Bc y') ∧ Hid (st (fitS l s) y = st (fitS l rest) y')) (fun i _ => s.len - (intOf i).toNat)
  case atStart => exact ⟨0, y, s, by simp [Hid], rfl, Kp.refl _ _, Nat.le_refl _, HB, HS, HC, rfl⟩
  case round =>
    obtain ⟨k, y', rest, HK, rfl, HKP, HZ, HD, HF, HM, HE⟩ := hrel
    have hzr := HKP.out.below.size
    have Vr : Hid (AtV wr Bv a l.length c) := (HKP.out.block Bv (by omega) (by omega)).trans HV.out
    cases rest with
    | nil =>
      have hk' : ¬ k < s.len := by rw [HK.out]; simp only [Sels.len]; omega
      have NE : Hid (At1 wr Bc (st (fitS l s) y)) := by rw [Hid, HE.out]; exact HM.out
      clear HE HM
      go_wp2_with fail
      go_end0
      exact ⟨rfl, NE.out, HKP.out⟩
    | cons h sub rest =>
      have hlt : k < s.len := by rw [HK.out]; simp only [Sels.len]; omega
      have HK2 : Hid (s.len = k + 1 + rest.len) := by rw [Hid, HK.out]; simp only [Sels.len]; omega
      obtain ⟨b, o, a1, c1, a2, c2, a3, c3, ha, _, hbl, d0, d1, d2, d3, d4, d5, r1, r2, r3, _⟩ := (HF.out.keep (Below.agree HKP.out.below (by omega))).step
      have HF2 : Hid (SelFrom 0 Bv w a' (k + 1) rest) := SelFrom.next HF.out
      subst ha
      have R1 : Hid (ArRow 0 Bv wr a1 h.args) := r1
      have R2 : Hid (DiRow 0 Bv wr a2 h.dirs) := r2
      have R3 : Hid (SelRow 0 Bv wr a3 sub) := r3
      have RR : Hid (ArRow 0 Bv wr a l) := HR.out.keep (Below.agree HKP.out.below (by omega))
      obtain ⟨e1, e2, e3, e4⟩ := HD.out
      have E1 : Hid (HdBd 1048576 h) := e1
      have E3 : Hid (SelsBd 1048576 sub) := e3
      have E4 : Hid (SelsBd 1048576 rest) := e4
      have HZ2 : Hid (rest.size ≤ s.size) := by have := HZ.out; simp only [Sels.size] at this; unfold Hid; omega
      have IS : Hid (EachFit l sub) := IH.out sub (by have := HZ.out; simp only [Sels.size] at this; omega)
      clear r1 r2 r3 e1 e3 e4
      go_wp2_with fail
      obtain ⟨W, hW⟩ : ∃ W, W = wr.alloc (.cells #[.int .i64 h.k, .string h.al, .string h.nm, .slice a1 h.args.length c1, .slice a2 h.dirs.length c2, .slice a3 sub.len c3] 115) := ⟨_, rfl⟩
      rw [← hW]
      have zW : W.heap.size = wr.heap.size + 1 := by rw [hW]; simp
      have B0 : Hid (Below wr.heap.size wr W) := by rw [hW]; exact (Below.refl _ _).alloc (Nat.le_refl _) _
      have HDW : Hid (W.heap[wr.heap.size]? = some (.cells #[.int .i64 h.k, .string h.al, .string h.nm, .slice a1 h.args.length c1, .slice a2 h.dirs.length c2, .slice a3 sub.len c3] 115 (0, 0))) := by rw [Hid, hW]; exact heap_alloc_new _ _
      clear hW d0 d1 d2 d3 d4 d5
      refine (look_fit h sub.len a1 a2 a3 c1 c2 c3 Bv Bc y' a c l _ ((B0.out.block Bv (by omega)).trans Vr.out) ((B0.out.block Bc (by omega)).trans HM.out) hne (R1.out.keep (Below.agree B0.out (by omega))) (R2.out.keep (Below.agree B0.out (by omega))) (RR.out.keep (Below.agree B0.out (by omega))) hl E1.out).mono ?_
      rintro e w1 ⟨rfl, hN1, hK1⟩
      have N1 : Hid (At1 w1 Bc (st (hdFitB l h) y')) := hN1
      have K1 : Hid (Kp Bc wr w1) := (Kp.of B0.out (by omega)).trans hK1
      have hd5 := row_cell ((hK1.block wr.heap.size (by omega) (by omega)).trans HDW.out) 5
      clear hN1 hK1 HDW
      go_wp2_with fail
      refine (IS.out a3 c3 Bv Bc _ a c _ ((K1.out.block Bv (by omega) (by omega)).trans Vr.out) N1.out hne (SelRow.keep R3.out (Below.agree K1.out.below (by omega))) (RR.out.keep (Below.agree K1.out.below (by omega))) e2 E3.out hl).mono ?_
      rintro e w2 ⟨rfl, hN2, hK2⟩
      have N2 : Hid (At1 w2 Bc (st (fitS l sub) (st (hdFitB l h) y'))) := hN2
      have K2 : Hid (Kp Bc w w2) := HKP.out.trans (K1.out.trans hK2)
      have HE2 : Hid (st (fitS l s) y = st (fitS l rest) (st (fitS l sub) (st (hdFitB l h) y'))) := by rw [Hid, HE.out]; simp only [fitS, st_and]
      clear hN2 hK2 hd5
      go_wp2_with fail
      exact ⟨⟨k + 1, _, rest, HK2, by go_num, K2, HZ2, E4, HF2, N2, HE2⟩, by simp [intOf]; omega⟩
end Go.Proofs.YtkjndghkimnjeaaGreat
namespace Go.Proofs.YtkjndghkimnjeaaGreat
open Go.ChangeShapes Go.WideShapes Go.ChangeAt Go.RowKit
set_option linter.unusedVariables false

theorem fitD_take {l : List Ar} {ds : List De} {k : Nat} (hk : k < ds.length) : fitD l (ds.take (k + 1)) = (fitD l (ds.take k) && fitS l ds[k].sels) := by
  unfold fitD; rw [List.take_succ_eq_append_getElem hk, List.all_append]; simp
theorem fitD_no {l : List Ar} {ds : List De} {k : Nat} (hk : k < ds.length) (h : fitS l ds[k].sels = false) : fitD l ds = false := all_no_b hk h

set_option maxHeartbeats 4000000 in
set_option maxRecDepth 40000 in
theorem impl_varsFit (a' : Option Addr) (c' : Nat) (ds : List De) (a : Option Addr) (c : Nat) (l : List Ar) (x y : Int) (w : World) (hd : DeRow 0 w.heap.size w a' ds) (hb : DefsBd 1048576 ds) (hr : ArRow 0 w.heap.size w a l) (hl : l.length ≤ 1048576) (ht : ∀ x ∈ l, ArBd 1048576 x) (hy : varsFit ds l = (x, y)) :
    Calls Tryz.prog 32 #[.agg #[.slice a' ds.length c'], .slice a l.length c] w fun e w' => e = .returned (.tuple #[.int .i64 x, .int .i64 y]) ∧ Below w.heap.size w w' := by
  have K1 : Hid (∀ W0, Below w.heap.size w W0 → DeRow 0 w.heap.size W0 a' ds) := fun W0 hB => DeRow.keep hd (Below.agree hB (Nat.le_refl _))
  have K2 : Hid (∀ W0, Below w.heap.size w W0 → ArRow 0 w.heap.size W0 a l) := fun W0 hB => Row.keep hr (Below.agree hB (Nat.le_refl _))
  have HB : Hid (DefsBd 1048576 ds) := hb
  have hn : ds.length ≤ 1048576 := hb.1
  have HT : Hid (∀ x ∈ l, ArBd 1048576 x) := ht
  have HY : Hid (varsFit ds l = (x, y)) := hy
  have B0 : Hid (Below w.heap.size w ((w.alloc (.cells #[.slice a' ds.length c'] 33)).alloc (.cells #[.slice a l.length c] 34))) := ((Below.refl _ _).alloc (Nat.le_refl _) _).alloc (by simp) _
  clear hd hr hb ht hy
  by_cases hbig : 4096 < l.length
  case pos =>
    have hz := HY.out
    unfold varsFit at hz
    rw [if_pos hbig] at hz
    simp only [Prod.mk.injEq] at hz
    obtain ⟨rfl, rfl⟩ := hz
    go_enter Tryz.func32, Tryz.ntmps32
    go_wp2_with fail
    go_ret2
    exact ⟨rfl, B0.out⟩
  go_enter Tryz.func32, Tryz.ntmps32
  go_wp2_with fail
  refine (impl_doc a' c' ds _ (DeRow.wide (K1.out _ B0.out) (Nat.le_refl _) (by simp; omega)) HB.out.1 HB.out.2).mono ?_
  rintro e w1 ⟨rfl, hb1⟩
  have z1 : w.heap.size + 2 ≤ w1.heap.size := by have := hb1.size; simp at this; omega
  have Q1 : Hid (Below w.heap.size w w1) := B0.out.trans (hb1.mono (by simp; omega))
  have A0 : Hid (w1.heap[w.heap.size]? = some (.cells #[.slice a' ds.length c'] 33 (0, 0))) := (hb1.block w.heap.size (by simp; omega)).trans (by rw [Below.heap_alloc _ _ _ (by simp)]; exact heap_alloc_new _ _)
  have A1 : Hid (AtV w1 (w.heap.size + 1) a l.length c) := (hb1.block (w.heap.size + 1) (by simp)).trans (by
    have := heap_alloc_new (w.alloc (.cells #[.slice a' ds.length c'] 33)) (.cells #[.slice a l.length c] 34)
    simpa using this)
  have k11 := row_cell A1.out 0
  clear hb1
  cases hdb : docB ds with
  | false =>
    have hz := HY.out
    unfold varsFit at hz
    rw [if_neg hbig, hdb] at hz
    simp only [Bool.false_and, Bool.not_false, if_true, Prod.mk.injEq] at hz
    obtain ⟨rfl, rfl⟩ := hz
    go_wp2_with fail
    go_ret2
    exact ⟨rfl, Q1.out⟩
  | true =>
  go_wp2_with fail
  refine (impl_binds a c l _ (Row.wide (K2.out _ Q1.out) (Nat.le_refl _) (by omega)) hl HT.out).mono ?_
  rintro e w2 ⟨rfl, hb2⟩
  have z2 : w.heap.size + 2 ≤ w2.heap.size := by have := hb2.size; omega
  have Q2 : Hid (Below w.heap.size w w2) := Q1.out.trans (hb2.mono (by omega))
  have A2 : Hid (w2.heap[w.heap.size]? = some (.cells #[.slice a' ds.length c'] 33 (0, 0))) := (hb2.block w.heap.size (by omega)).trans A0.out
  have A3 : Hid (AtV w2 (w.heap.size + 1) a l.length c) := (hb2.block (w.heap.size + 1) (by omega)).trans A1.out
  have k20 := row_cell A2.out 0
  have kA := fun ob => (((Below.refl w2.heap.size w2).alloc (Nat.le_refl _) ob).cell (p := ⟨w.heap.size, 0, none⟩) (show w.heap.size < w2.heap.size by omega)).trans k20
  clear hb2 A0 A1 k11
  cases hbb : bindB l with
  | false =>
    have hz := HY.out
    unfold varsFit at hz
    rw [if_neg hbig, hdb, hbb] at hz
    simp only [Bool.and_false, Bool.not_false, if_true, Prod.mk.injEq] at hz
    obtain ⟨rfl, rfl⟩ := hz
    go_wp2_with fail
    go_ret2
    exact ⟨rfl, Q2.out⟩
  | true =>
  have hz := HY.out
  unfold varsFit at hz
  rw [if_neg hbig, hdb, hbb] at hz
  simp only [Bool.and_self, Bool.not_true, Bool.false_eq_true, if_false, Prod.mk.injEq] at hz
  obtain ⟨hx, rfl⟩ := hz
  have HX : Hid (st (fitD l ds) 0 = x) := hx
  clear hx HY k20
  go_wp2_with fail
  obtain ⟨W, hW⟩ : ∃ W, W = w2.alloc (.cells #[.int .i64 0] 3) := ⟨_, rfl⟩
  rw [← hW]
  have zW : W.heap.size = w2.heap.size + 1 := by rw [hW]; simp
  have BW : Hid (Below w2.heap.size w2 W) := by rw [hW]; exact (Below.refl _ _).alloc (Nat.le_refl _) _
  have CW : Hid (At1 W w2.heap.size 0) := by rw [Hid, hW]; exact heap_alloc_new _ _
  have VW : Hid (AtV W (w.heap.size + 1) a l.length c) := (BW.out.block _ (by omega)).trans A3.out
  have QW : Hid (Below w.heap.size w W) := Q2.out.trans (BW.out.mono (by omega))
  clear hW kA A2 A3
  go_loopw [25] (fun i w' => ∃ (k : Nat), k ≤ ds.length ∧ i = .int .i64 k ∧ Hid (Kp w2.heap.size W w') ∧ Hid (At1 w' w2.heap.size (st (fitD l (ds.take k)) 0))) (fun i _ => ds.length - (intOf i).toNat)
  case atStart => exact ⟨0, by omega, rfl, Kp.refl _ _, CW⟩
  case round =>
    obtain ⟨k, hk, rfl, HK, HM⟩ := hrel
    have zr := HK.out.below.size
    have QR : Hid (Below w.heap.size w wr) := QW.out.trans (HK.out.below.mono (by omega))
    have VR : Hid (AtV wr (w.heap.size + 1) a l.length c) := (HK.out.block _ (by omega) (by omega)).trans VW.out
    by_cases hlt : k < ds.length
    case neg =>
      have HE : Hid (At1 wr w2.heap.size x) := by have := HM.out; rw [List.take_of_length_le (by omega), HX.out] at this; exact this
      have ce := row_cell HE.out 0
      clear HM
      go_wp2_with fail
      go_ret2
      exact ⟨rfl, QR.out⟩
    obtain ⟨b, o, a3, c3, ha, _, hbl, d0, d1, d2, d3, r3⟩ := DeRow.cells (K1.out _ QR.out) k hlt
    subst ha
    have R3 : Hid (SelRow 0 w.heap.size wr a3 ds[k].sels) := r3
    obtain ⟨x1, x2, x3, x4⟩ := HB.out.2 _ (List.getElem_mem hlt)
    have X4 : Hid (SelsBd 1048576 ds[k].sels) := x4
    have HV2 : Hid (st (fitD l (ds.take (k + 1))) 0 = st (fitS l ds[k].sels) (st (fitD l (ds.take k)) 0)) := by rw [Hid, fitD_take hlt, st_and]
    generalize st (fitD l (ds.take k)) 0 = y' at *
    clear r3 x4
    go_wp2_with fail
    have bA := fun ob => (Below.refl wr.heap.size wr).alloc (Nat.le_refl _) ob
    refine (each_fit l ds[k].sels a3 c3 (w.heap.size + 1) w2.heap.size y' a c _ (((bA _).block _ (by omega)).trans VR.out) (((bA _).block _ (by omega)).trans HM.out) (by omega) (SelRow.wide (SelRow.keep R3.out (Below.agree (bA _) (by omega))) (Nat.le_refl _) (by omega)) (Row.wide (Row.keep (K2.out _ QR.out) (Below.agree (bA _) (by omega))) (Nat.le_refl _) (by omega)) x3 X4.out hl).mono ?_
    rintro e w3 ⟨rfl, hN2, hK2⟩
    have N2 : Hid (At1 w3 w2.heap.size (st (fitS l ds[k].sels) y')) := hN2
    have K3 : Hid (Kp w2.heap.size W w3) := HK.out.trans ((Kp.of (bA _) (by omega)).trans hK2)
    clear hN2 hK2 d0 d1 d2 d3 bA
    go_wp2_with fail
    exact ⟨⟨k + 1, by omega, by go_num, K3, by rw [HV2.out]; exact N2.out⟩, by simp [intOf]; omega⟩

def SpecFit (l : List Ar) (s : Sels) : Prop := ∀ (a' : Option Addr) (c' : Nat) (a : Option Addr) (c : Nat) (w : World), SelRow 0 w.heap.size w a' s → ArRow 0 w.heap.size w a l → s.len ≤ 1048576 → SelsBd 1048576 s → l.length ≤ 1048576 →
    Calls Tryz.prog 46 #[.slice a' s.len c', .slice a l.length c] w fun e w' => e = .returned (.bool (fitS l s)) ∧ Below w.heap.size w w'
set_option maxHeartbeats 8000000 in
set_option maxRecDepth 40000 in
theorem spec_fit (l : List Ar) (s : Sels) : SpecFit l s := by
  induction hN : s.size using Nat.strongRecOn generalizing s with
  | _ N ih =>
  subst hN
  intro a' c' a c w hs hr hn hbd hl
  have IH : Hid (∀ sub : Sels, sub.size < s.size → SpecFit l sub) := fun sub hsub => ih sub.size hsub sub rfl
  have HS : Hid (SelFrom 0 w.heap.size w a' 0 s) := hs.from_
  have HR : Hid (∀ W0, Below w.heap.size w W0 → ArRow 0 W0.heap.size W0 a l) := fun W0 hB => Row.up hr hB
  have HB : Hid (SelsBd 1048576 s) := hbd
  clear hs hr ih hbd
  go_enter Tryz.func46, Tryz.ntmps46
  go_wp2_with fail
  go_loopw [5] (fun i w' => ∃ (k : Nat) (rest : Sels), Hid (s.len = k + rest.len) ∧ i = .int .i64 k ∧ Hid (Below w.heap.size w w') ∧ Hid (rest.size ≤ s.size) ∧ Hid (SelsBd 1048576 rest) ∧ Hid (SelFrom 0 w.heap.size w a' k rest) ∧ Hid (fitS l s = fitS l rest)) (fun i _ => s.len - (intOf i).toNat)
  case atStart => exact ⟨0, s, by simp [Hid], rfl, Below.refl _ _, Nat.le_refl _, HB, HS, rfl⟩
  case round =>
    obtain ⟨k, rest, HK, rfl, HW, HZ, HD, HF, HE⟩ := hrel
    have hzr := HW.out.size
    cases rest with
    | nil =>
      have hk' : ¬ k < s.len := by rw [HK.out]; simp only [Sels.len]; omega
      have NE : Hid (true = fitS l s) := by rw [Hid, HE.out]; rfl
      clear HE
      go_wp2_with fail
      go_ret
      exact ⟨ret_bool NE.out, HW.out⟩
    | cons h sub rest =>
      have hlt : k < s.len := by rw [HK.out]; simp only [Sels.len]; omega
      have HK2 : Hid (s.len = k + 1 + rest.len) := by rw [Hid, HK.out]; simp only [Sels.len]; omega
      have HST : Hid (∀ W0, Below w.heap.size w W0 → SelFrom 0 w.heap.size W0 a' k (.cons h sub rest)) := fun W0 hB => HF.out.keep (Below.agree hB (Nat.le_refl _))
      have HF2 : Hid (SelFrom 0 w.heap.size w a' (k + 1) rest) := SelFrom.next HF.out
      obtain ⟨e1, e2, e3, e4⟩ := HD.out
      obtain ⟨x1, x2, x3, x4, x5, x6⟩ := e1
      have E3 : Hid (SelsBd 1048576 sub) := e3
      have E4 : Hid (SelsBd 1048576 rest) := e4
      have HZ2 : Hid (rest.size ≤ s.size) := by have := HZ.out; simp only [Sels.size] at this; unfold Hid; omega
      have IS : Hid (SpecFit l sub) := IH.out sub (by have := HZ.out; simp only [Sels.size] at this; omega)
      have HEX : Hid (fitS l s = (hdFitB l h && fitS l sub && fitS l rest)) := HE.out
      obtain ⟨wo, rfl⟩ : ∃ x, x = wr := ⟨_, rfl⟩
      clear e3 e4 x4 x6 HE
      go_wp2_with fail
      go_loopw [6] (fun i w' => ∃ (j : Nat), j ≤ h.args.length ∧ i = .int .i64 j ∧ Hid (Below w.heap.size w w') ∧ Hid ((h.args.take j).all (argFitB l) = true)) (fun i _ => h.args.length - (intOf i).toNat)
      case atStart => exact ⟨0, by omega, rfl, HW, rfl⟩
      case round =>
        obtain ⟨j, hj, rfl, HWj, HJ⟩ := hrel
        obtain ⟨b, o, a1, c1, a2, c2, a3, c3, ha, _, hbl, d0, d1, d2, d3, d4, d5, r1, r2, r3, _⟩ := (HST.out _ HWj.out).step
        subst ha
        have zj := HWj.out.size
        clear d0 d1 d2 d5
        by_cases hjt : j < h.args.length
        case neg =>
          have HAL : Hid (h.args.all (argFitB l) = true) := by have := HJ.out; rwa [List.take_of_length_le (by omega)] at this
          clear HJ r1 r2 r3
          go_wp2_with fail
          obtain ⟨wp, rfl⟩ : ∃ x, x = wr := ⟨_, rfl⟩
          clear d3 d4
          go_loopw [9] (fun i w' => ∃ (j : Nat), j ≤ h.dirs.length ∧ i = .int .i64 j ∧ Hid (Below w.heap.size w w') ∧ Hid ((h.dirs.take j).all (dirFitB l) = true)) (fun i _ => h.dirs.length - (intOf i).toNat)
          case atStart => exact ⟨0, by omega, rfl, HWj, rfl⟩
          case round =>
            obtain ⟨m, hm, rfl, HWm, HM⟩ := hrel
            obtain ⟨b', o', a1', c1', a2', c2', a3', c3', ha, _, hbl', d0, d1, d2, d3, d4, d5, r1, r2, r3, _⟩ := (HST.out _ HWm.out).step
            simp only [Option.some.injEq, Addr.mk.injEq, and_true] at ha
            obtain ⟨rfl, rfl⟩ := ha
            have zm := HWm.out.size
            clear d0 d1 d2 d3
            by_cases hmt : m < h.dirs.length
            case neg =>
              have HH : Hid (hdFitB l h = true) := by
                have := HM.out
                rw [List.take_of_length_le (by omega)] at this
                unfold Hid hdFitB; rw [HAL.out, this]; rfl
              have R3 : Hid (SelRow 0 w.heap.size wr a3' sub) := r3
              clear HM r1 r2 r3
              go_wp2_with fail
              refine (IS.out a3' c3' a c _ (SelRow.wide R3.out (Nat.le_refl _) zm) (HR.out _ HWm.out) e2 E3.out hl).mono ?_
              rintro e w1 ⟨rfl, hb1⟩
              have Q1 : Hid (Below w.heap.size w w1) := HWm.out.trans (hb1.mono zm)
              clear hb1 d4 d5
              cases hf : fitS l sub
              · have NE : Hid (false = fitS l s) := by rw [Hid, HEX.out, HH.out, hf]; rfl
                clear HEX
                go_wp2_with fail
                go_ret
                exact ⟨ret_bool NE.out, Q1.out⟩
              · have NE : Hid (fitS l s = fitS l rest) := by rw [Hid, HEX.out, HH.out, hf]; rfl
                clear HEX
                go_wp2_with fail
                exact ⟨⟨k + 1, rest, HK2, by go_num, Q1, HZ2, E4, HF2, NE⟩, by simp [intOf]; omega⟩
            obtain ⟨b5, o5, ha, _, hbl5, f0, f1, f2, f3⟩ := r2.cells_di m hmt
            subst ha
            obtain ⟨u, b9, hu⟩ : ∃ u b', bval h.dirs[m].v l = (u, b') := ⟨_, _, rfl⟩
            have HU : Hid (bval h.dirs[m].v l = (u, b9)) := hu
            have HT : Hid (dirFitB l h.dirs[m] = (u.k == 2)) := by unfold Hid dirFitB; rw [hu]
            clear r1 r2 r3 d5 hu
            go_wp2_with fail
            refine (spec_value h.dirs[m].v a c l u b9 _ (HR.out _ HWm.out) hl HU.out).mono ?_
            rintro e w1 ⟨rfl, hb1⟩
            have z1 := hb1.size
            have Q1 : Hid (Below w.heap.size w w1) := HWm.out.trans (hb1.mono zm)
            clear hb1 d4 f0 f1 f2 f3
            cases b9 with
            | false =>
              have hu0 := bval_none HU.out
              have HN : Hid (false = fitS l s) := by
                have := fit_dirs_no hmt (show dirFitB l h.dirs[m] = false by rw [HT.out, hu0]; rfl)
                rw [Hid, HEX.out, ← this]; rfl
              clear HEX
              go_wp2_with fail
              go_ret
              exact ⟨ret_bool HN.out, Q1.out.alloc (by omega) _⟩
            | true =>
              cases h1 : (u.k == 2)
              · have HN : Hid (false = fitS l s) := by
                  have := fit_dirs_no hmt (show dirFitB l h.dirs[m] = false by rw [HT.out, h1])
                  rw [Hid, HEX.out, ← this]; rfl
                clear HEX
                go_wp2_with fail
                go_ret
                exact ⟨ret_bool HN.out, Q1.out.alloc (by omega) _⟩
              · have HN : Hid ((h.dirs.take (m + 1)).all (dirFitB l) = true) := all_takeB hmt HM.out (by rw [HT.out, h1])
                have Q2 : Hid (∀ ob, Below w.heap.size w (w1.alloc ob)) := fun ob => Q1.out.alloc (by omega) _
                go_wp2_with fail
                exact ⟨⟨m + 1, by omega, by go_num, Q2.out _, HN⟩, by simp [intOf]; omega⟩
        obtain ⟨b5, o5, ha, _, hbl5, f0, f1, f2, f3⟩ := r1.cells_ar j hjt
        subst ha
        obtain ⟨u, b9, hu⟩ : ∃ u b', bval h.args[j].v l = (u, b') := ⟨_, _, rfl⟩
        have HU : Hid (bval h.args[j].v l = (u, b9)) := hu
        have HT : Hid (argFitB l h.args[j] = (b9 && !(u.k == 2))) := by unfold Hid argFitB; rw [hu]
        clear r1 r2 r3 d4 hu
        go_wp2_with fail
        refine (spec_value h.args[j].v a c l u b9 _ (HR.out _ HWj.out) hl HU.out).mono ?_
        rintro e w1 ⟨rfl, hb1⟩
        have z1 := hb1.size
        have Q1 : Hid (Below w.heap.size w w1) := HWj.out.trans (hb1.mono zj)
        have Q2 : Hid (∀ ob, Below w.heap.size w (w1.alloc ob)) := fun ob => Q1.out.alloc (by omega) _
        clear hb1 d3 f0 f1 f2 f3
        have HNO : Hid (argFitB l h.args[j] = false → false = fitS l s) := fun hh => by
          have := fit_args_no hjt hh
          rw [HEX.out, ← this]; rfl
        cases b9 <;> cases h1 : (u.k == 2)
        all_goals
          go_wp2_with fail
          first
          | (exact ⟨⟨j + 1, by omega, by go_num, Q2.out _, all_takeB hjt HJ.out (by rw [HT.out, h1]; rfl)⟩, by simp [intOf]; omega⟩)
          | (go_ret; exact ⟨ret_bool (HNO.out (by rw [HT.out, h1]; rfl)), Q2.out _⟩)

set_option maxHeartbeats 4000000 in
set_option maxRecDepth 40000 in
theorem spec_fits (a' : Option Addr) (c' : Nat) (ds : List De) (a : Option Addr) (c : Nat) (l : List Ar) (w : World) (hd : DeRow 0 w.heap.size w a' ds) (hb : DefsBd 1048576 ds) (hr : ArRow 0 w.heap.size w a l) (hl : l.length ≤ 1048576) :
    Calls Tryz.prog 25 #[.agg #[.slice a' ds.length c'], .slice a l.length c] w fun e w' => e = .returned (.int .i64 (st (fitD l ds) 0)) ∧ Below w.heap.size w w' := by
  have K1 : Hid (∀ W0, Below w.heap.size w W0 → DeRow 0 w.heap.size W0 a' ds) := fun W0 hB => DeRow.keep hd (Below.agree hB (Nat.le_refl _))
  have K2 : Hid (∀ W0, Below w.heap.size w W0 → ArRow 0 W0.heap.size W0 a l) := fun W0 hB => Row.up hr hB
  have HB : Hid (DefsBd 1048576 ds) := hb
  have hn : ds.length ≤ 1048576 := hb.1
  clear hd hr hb
  go_enter Tryz.func25, Tryz.ntmps25
  go_wp2_with fail
  obtain ⟨W, hW⟩ : ∃ W, W = w.alloc (.cells #[.slice a' ds.length c'] 33) := ⟨_, rfl⟩
  rw [← hW]
  have zW : W.heap.size = w.heap.size + 1 := by rw [hW]; simp
  have B0 : Hid (Below w.heap.size w W) := by rw [hW]; exact (Below.refl _ _).alloc (Nat.le_refl _) _
  have A0 : Hid (W.heap[w.heap.size]? = some (.cells #[.slice a' ds.length c'] 33 (0, 0))) := by rw [Hid, hW]; exact heap_alloc_new _ _
  clear hW
  go_loopw [5] (fun i w' => ∃ (k : Nat), k ≤ ds.length ∧ i = .int .i64 k ∧ Below W.heap.size W w' ∧ Hid (fitD l (ds.take k) = true)) (fun i _ => ds.length - (intOf i).toNat)
  case atStart => exact ⟨0, by omega, rfl, Below.refl _ _, rfl⟩
  case round =>
    obtain ⟨k, hk, rfl, hb, HK⟩ := hrel
    have HBR : Hid _ := hb
    have QR : Hid (Below w.heap.size w wr) := B0.out.trans (hb.mono (by omega))
    have zr := hb.size
    have q0 := row_cell ((hb.block w.heap.size (by omega)).trans A0.out) 0
    clear hb
    by_cases hlt : k < ds.length
    case neg =>
      have HN : Hid (0 = st (fitD l ds) 0) := by have := HK.out; rw [List.take_of_length_le (by omega)] at this; rw [Hid, this]; rfl
      go_wp2_with fail
      go_ret
      exact ⟨ret_int HN.out, QR.out⟩
    obtain ⟨b, o, a3, c3, ha, _, hbl, d0, d1, d2, d3, r3⟩ := DeRow.cells (K1.out _ QR.out) k hlt
    subst ha
    have R3 : Hid (SelRow 0 w.heap.size wr a3 ds[k].sels) := r3
    obtain ⟨x1, x2, x3, x4⟩ := HB.out.2 _ (List.getElem_mem hlt)
    have X4 : Hid (SelsBd 1048576 ds[k].sels) := x4
    clear r3 x4
    go_wp2_with fail
    refine (spec_fit l ds[k].sels a3 c3 a c _ (SelRow.wide R3.out (Nat.le_refl _) (by omega)) (K2.out _ QR.out) x3 X4.out hl).mono ?_
    rintro e w1 ⟨rfl, hb1⟩
    have B1 : Hid (Below W.heap.size W w1) := HBR.out.trans (hb1.mono (by omega))
    have Q1 : Hid (Below w.heap.size w w1) := QR.out.trans (hb1.mono (by omega))
    clear hb1 d0 d1 d2 d3 q0
    cases hf : fitS l ds[k].sels
    · have HN : Hid (14 = st (fitD l ds) 0) := by rw [Hid, fitD_no hlt hf]; rfl
      go_wp2_with fail
      go_ret
      exact ⟨ret_int HN.out, Q1.out⟩
    · have HN : Hid (fitD l (ds.take (k + 1)) = true) := by rw [Hid, fitD_take hlt, HK.out, hf]; rfl
      go_wp2_with fail
      exact ⟨⟨k + 1, by omega, by go_num, B1.out, HN⟩, by simp [intOf]; omega⟩

end Go.Proofs.YtkjndghkimnjeaaGreat
namespace Go.Proofs.YtkjndghkimnjeaaGreat.G
open Go.ChangeShapes Go.WideShapes Go.ChangeAt Go.RowKit
set_option linter.unusedVariables false

theorem ret_str {a b : ByteArray} (h : a = b) : Ending.returned (.string a) = .returned (.string b) := by rw [h]
theorem quo10 (n : Int) (h0 : 0 ≤ n) (h1 : n ≤ 9223372036854775807) : IntKind.i64.wrap (n.tdiv 10) = n / 10 := by
  rw [Int.tdiv_eq_ediv_of_nonneg h0, wrap_small _ (by omega) (by omega)]
theorem rem10 (n : Int) (h0 : 0 ≤ n) : IntKind.u8.wrap (IntKind.i64.wrap (48 + n.tmod 10)) = 48 + n % 10 := by
  rw [Int.tmod_eq_emod_of_nonneg h0, wrap_small _ (by omega) (by omega), IntKind.wrap_u8]; omega
/-- A mark's text. -/
def mkT (k : Nat) : ByteArray := ⟨(109 :: Lib.decDigits k).toArray⟩
theorem digits_len20 (k : Nat) (h : (k : Int) ≤ 4611686018427387904) : (Lib.decDigits k).length ≤ 20 := by
  rw [Lib.decDigits_length]; exact Lib.nDigits_le20 k (by omega)
theorem rem10' (n : Nat) : IntKind.u8.wrap (IntKind.i64.wrap (48 + (n : Int).tmod 10)) = 48 + (n : Int) % 10 := rem10 n (by omega)

end Go.Proofs.YtkjndghkimnjeaaGreat.G
namespace Go.Proofs.YtkjndghkimnjeaaGreat.G
open Go.ChangeShapes Go.WideShapes Go.ChangeAt Go.RowKit
set_option linter.unusedVariables false

/-- Nothing has turned but some blocks, and new ones were made. -/
structure Kept (bs : List Nat) (w w' : World) : Prop where
  os : w'.os = w.os
  tape : w'.tape = w.tape
  output : w'.output = w.output
  size : w.heap.size ≤ w'.heap.size
  block : ∀ k, k < w.heap.size → ¬ k ∈ bs → w'.heap[k]? = w.heap[k]?
theorem Kept.refl (bs : List Nat) (w : World) : Kept bs w w := ⟨rfl, rfl, rfl, Nat.le_refl _, fun _ _ _ => rfl⟩
theorem Kept.trans {bs : List Nat} {a b c : World} (h : Kept bs a b) (k : Kept bs b c) : Kept bs a c :=
  ⟨k.os.trans h.os, k.tape.trans h.tape, k.output.trans h.output, Nat.le_trans h.size k.size, fun g hg hn => (k.block g (Nat.lt_of_lt_of_le hg h.size) hn).trans (h.block g hg hn)⟩
theorem Kept.mono {bs cs : List Nat} {a b : World} (h : Kept bs a b) (hs : ∀ x ∈ bs, x ∈ cs) : Kept cs a b :=
  ⟨h.os, h.tape, h.output, h.size, fun g hg hn => h.block g hg (fun hx => hn (hs g hx))⟩
theorem Kept.of {bs : List Nat} {a b : World} (h : Below a.heap.size a b) : Kept bs a b := ⟨h.os, h.tape, h.output, h.size, fun g hg _ => h.block g hg⟩
theorem Kept.set {bs : List Nat} {a b : World} (h : Kept bs a b) {p : Addr} (hp : p.block ∈ bs) (v : Value) : Kept bs a (b.setCell p v) := by
  have hb : Below (p.block) b (b.setCell p v) := (Below.refl _ _).setCell (Nat.le_refl _) v
  exact h.trans ⟨hb.os, hb.tape, hb.output, hb.size, fun g _ hn => Below.heap_setCell _ _ _ _ (fun e => hn (e ▸ hp))⟩
theorem Kept.below {bs : List Nat} {a b : World} (h : Kept bs a b) {B : Nat} (hB : B ≤ a.heap.size) (hs : ∀ x ∈ bs, B ≤ x) : Below B a b :=
  ⟨h.os, h.tape, h.output, h.size, fun g hg => h.block g (by omega) (fun hx => by have := hs g hx; omega)⟩

def mks {α : Type} (f : Nat → α → α) (c : α → Nat) : Nat → List α → List α
  | _, [] => []
  | k, x :: r => f k x :: mks f c (k + c x) r
def cnt {α : Type} (c : α → Nat) : List α → Nat
  | [] => 0
  | x :: r => c x + cnt c r
theorem mks_length {α : Type} (f : Nat → α → α) (c : α → Nat) : ∀ (k : Nat) (l : List α), (mks f c k l).length = l.length
  | _, [] => rfl
  | k, x :: r => by simp [mks, mks_length f c (k + c x) r]
theorem mks_get {α : Type} (f : Nat → α → α) (c : α → Nat) : ∀ (k : Nat) (l : List α) (i : Nat) (h : i < l.length), (mks f c k l)[i]? = some (f (k + cnt c (l.take i)) l[i])
  | k, [], i, h => by simp at h
  | k, x :: r, 0, h => by simp [mks, cnt]
  | k, x :: r, i + 1, h => by
    have := mks_get f c (k + c x) r i (by simpa using h)
    simp only [mks, List.getElem?_cons_succ, this, List.take_succ_cons, cnt, List.getElem_cons_succ]
    congr 2; omega
theorem cnt_append {α : Type} (c : α → Nat) (a b : List α) : cnt c (a ++ b) = cnt c a + cnt c b := by
  induction a with
  | nil => simp [cnt]
  | cons x a ih => simp only [List.cons_append, cnt, ih]; omega
theorem cnt_take {α : Type} (c : α → Nat) {l : List α} {i : Nat} (h : i < l.length) : cnt c (l.take (i + 1)) = cnt c (l.take i) + c l[i] := by
  rw [List.take_succ_eq_append_getElem h, cnt_append]; simp [cnt]
theorem cnt_le {α : Type} (c : α → Nat) (l : List α) (i : Nat) : cnt c (l.take i) ≤ cnt c l := by
  have : cnt c l = cnt c (l.take i) + cnt c (l.drop i) := by rw [← cnt_append, List.take_append_drop]
  omega
/-- The first i of one list, the rest of another. -/
def mix {α : Type} (m l : List α) (i : Nat) : List α := m.take i ++ l.drop i
theorem mix_len {α : Type} {m l : List α} {i : Nat} (h : m.length = l.length) (hi : i ≤ l.length) : (mix m l i).length = l.length := by simp [mix]; omega
theorem mix_zero {α : Type} (m l : List α) : mix m l 0 = l := by simp [mix]
theorem mix_all {α : Type} {m l : List α} (h : m.length = l.length) : mix m l l.length = m := by
  unfold mix; rw [List.drop_length, ← h, List.take_length]; simp
theorem mix_at {α : Type} {m l : List α} {i : Nat} (h : m.length = l.length) (hi : i < l.length) : (mix m l i)[i]? = some l[i] := by
  unfold mix
  rw [List.getElem?_append_right (by simp; omega)]
  simp only [List.length_take, List.getElem?_drop]
  rw [show i + (i - min i m.length) = i by omega, List.getElem?_eq_getElem hi]
theorem mix_next {α : Type} {m l : List α} {i : Nat} (h : m.length = l.length) (hi : i < l.length) (j : Nat) (hj : j ≠ i) : (mix m l (i + 1))[j]? = (mix m l i)[j]? := by
  unfold mix
  by_cases hlt : j < i
  · rw [List.getElem?_append_left (by simp; omega), List.getElem?_append_left (by simp; omega), List.getElem?_take, List.getElem?_take]
    simp [show j < i + 1 by omega, hlt]
  · rw [List.getElem?_append_right (by simp; omega), List.getElem?_append_right (by simp; omega)]
    simp only [List.length_take, List.getElem?_drop]
    congr 1; omega
theorem mix_new {α : Type} {m l : List α} {i : Nat} (h : m.length = l.length) (hi : i < l.length) : (mix m l (i + 1))[i]? = m[i]? := by
  unfold mix
  rw [List.getElem?_append_left (by simp; omega), List.getElem?_take]; simp
def m3 (k : Nat) : Bool := decide (k % 3 = 0)
theorem m3_eq (k : Nat) : ((k : Int).tmod 3 == 0) = m3 k := by
  unfold m3
  rw [Bool.eq_iff_iff]
  simp only [beq_iff_eq, decide_eq_true_eq]
  rw [Int.tmod_eq_emod_of_nonneg (by omega)]
  omega
end Go.Proofs.YtkjndghkimnjeaaGreat.G
