/- Whether variables fit: what it means; the program's look at one selection, and at all. -/
import Derived.Test.YtdhgojeanebhoaaBnVal
import Derived.Test.YtdhgojeanebhoaaDocOKs
import Derived.Test.YtdhgojeanebhoaaDocSpec
import Derived.Laws.EntriesVeiled
namespace Go.Proofs.Ytdhgojeanebhoaa
open Go.ChangeShapes Go.WideShapes Go.ChangeAt Go.RowKit
set_option linter.unusedVariables false

def argFitB (l : List Ar) (x : Ar) : Bool := (bval x.v l).2 && !((bval x.v l).1.k == 2)
def dirFitB (l : List Ar) (d : Di) : Bool := (bval d.v l).1.k == 2
def hdFitB (l : List Ar) (h : Hd) : Bool := h.args.all (argFitB l) && h.dirs.all (dirFitB l)
def fitS (l : List Ar) : Sels → Bool
  | .nil => true
  | .cons h sub rest => hdFitB l h && fitS l sub && fitS l rest
def fitD (l : List Ar) (ds : List De) : Bool := ds.all fun x => fitS l x.sels
/-- What VarsFit tells. -/
def varsFit (ds : List De) (l : List Ar) : Int × Int :=
  if 4096 < l.length then (0, 2)
  else if !(docB ds && bindB l) then (0, 1)
  else (if fitD l ds = true then 0 else 14, 0)
theorem lk_none {t : ByteArray} : ∀ {l : List Ar} {u : Va}, lk l t = (u, false) → u = va0
  | [], u, h => by simp only [lk, Prod.mk.injEq, and_true] at h; exact h.symm
  | x :: l, u, h => by
    simp only [lk] at h
    split at h
    · simp at h
    · exact lk_none h
theorem bval_none {v u : Va} {l : List Ar} (h : bval v l = (u, false)) : u = va0 := by
  by_cases h4 : v.k = 4
  · rw [bval_var h4] at h; exact lk_none h
  · rw [bval_not h4] at h; simp at h
theorem fit_args_no {l : List Ar} {h : Hd} {k : Nat} (hk : k < h.args.length) (hf : argFitB l h.args[k] = false) : false = hdFitB l h := by
  unfold hdFitB; rw [all_no_b hk hf]; rfl
theorem fit_dirs_no {l : List Ar} {h : Hd} {k : Nat} (hk : k < h.dirs.length) (hf : dirFitB l h.dirs[k] = false) : false = hdFitB l h := by
  unfold hdFitB; rw [all_no_b hk hf]; simp

set_option maxHeartbeats 4000000 in
set_option maxRecDepth 40000 in
theorem impl_fitIn (h : Hd) (n : Nat) (a1 a2 a3 : Option Addr) (c1 c2 c3 : Nat) (a : Option Addr) (c : Nat) (l : List Ar) (w : World) (r1 : ArRow 0 w.heap.size w a1 h.args) (r2 : DiRow 0 w.heap.size w a2 h.dirs) (hr : ArRow 0 w.heap.size w a l) (hl : l.length ≤ 1048576) (hb : HdBd 1048576 h) :
    Calls Try.prog 57 #[.agg #[.int .i64 h.k, .string h.al, .string h.nm, .slice a1 h.args.length c1, .slice a2 h.dirs.length c2, .slice a3 n c3], .slice a l.length c] w fun e w' => e = .returned (.bool (hdFitB l h)) ∧ Below w.heap.size w w' := by
  obtain ⟨x1, x2, x3, x4, x5, x6⟩ := hb
  have HR : Hid (∀ W0, Below w.heap.size w W0 → ArRow 0 W0.heap.size W0 a l) := fun W0 hB => Row.up hr hB
  have HA : Hid (ArRow 0 w.heap.size w a1 h.args) := r1
  have HD : Hid (DiRow 0 w.heap.size w a2 h.dirs) := r2
  clear hr r1 r2 x4 x6
  go_enter Try.func57, Try.ntmps57
  go_wp2_with fail
  obtain ⟨W, hW⟩ : ∃ W, W = w.alloc (.cells #[.int .i64 h.k, .string h.al, .string h.nm, .slice a1 h.args.length c1, .slice a2 h.dirs.length c2, .slice a3 n c3] 50) := ⟨_, rfl⟩
  rw [← hW]
  have zW : W.heap.size = w.heap.size + 1 := by rw [hW]; simp
  have B0 : Hid (Below w.heap.size w W) := by rw [hW]; exact (Below.refl _ _).alloc (Nat.le_refl _) _
  have A0 : Hid (W.heap[w.heap.size]? = some (.cells #[.int .i64 h.k, .string h.al, .string h.nm, .slice a1 h.args.length c1, .slice a2 h.dirs.length c2, .slice a3 n c3] 50 (0, 0))) := by rw [Hid, hW]; exact heap_alloc_new _ _
  clear hW
  go_loopw [16] (fun i w' => ∃ (k : Nat), k ≤ h.args.length ∧ i = .int .i64 k ∧ Below W.heap.size W w' ∧ Hid ((h.args.take k).all (argFitB l) = true)) (fun i _ => h.args.length - (intOf i).toNat)
  case atStart => exact ⟨0, by omega, rfl, Below.refl _ _, rfl⟩
  case round =>
    obtain ⟨k, hk, rfl, hb, HK⟩ := hrel
    have HBR : Hid _ := hb
    have QR : Hid (Below w.heap.size w wr) := B0.out.trans (hb.mono (by omega))
    have zr := hb.size
    have r0 : wr.heap[w.heap.size]? = _ := (hb.block w.heap.size (by omega)).trans A0.out
    have q0 := fun o => row_cell r0 o
    clear hb r0
    by_cases hlt : k < h.args.length
    case neg =>
      have HAL : Hid (h.args.all (argFitB l) = true) := by have := HK.out; rwa [List.take_of_length_le (by omega)] at this
      clear HK
      go_wp2_with fail
      obtain ⟨V, rfl⟩ : ∃ x, x = wr := ⟨_, rfl⟩
      clear q0
      go_loopw [38] (fun i w' => ∃ (j : Nat), j ≤ h.dirs.length ∧ i = .int .i64 j ∧ Below w.heap.size w w' ∧ Hid ((h.dirs.take j).all (dirFitB l) = true)) (fun i _ => h.dirs.length - (intOf i).toNat)
      case atStart => exact ⟨0, by omega, rfl, QR.out, rfl⟩
      case round =>
        obtain ⟨j, hj, rfl, hb, HJ⟩ := hrel
        have QJ : Hid (Below w.heap.size w wr) := hb
        have zj := hb.size
        clear hb
        by_cases hjt : j < h.dirs.length
        case neg =>
          have HN : Hid (true = hdFitB l h) := by
            have := HJ.out
            rw [List.take_of_length_le (by omega)] at this
            unfold Hid hdFitB; rw [HAL.out, this]; rfl
          go_wp2_with fail
          go_ret
          exact ⟨ret_bool HN.out, QJ.out⟩
        obtain ⟨b5, o5, ha, _, hbl, d0, d1, d2, d3⟩ := (HD.out.keep (Below.agree QJ.out (Nat.le_refl _))).cells_di j hjt
        subst ha
        obtain ⟨u, b', hu⟩ : ∃ u b', bval h.dirs[j].v l = (u, b') := ⟨_, _, rfl⟩
        have HU : Hid (bval h.dirs[j].v l = (u, b')) := hu
        have HT : Hid (dirFitB l h.dirs[j] = (u.k == 2)) := by unfold Hid dirFitB; rw [hu]
        clear hu
        go_wp2_with fail
        refine (impl_bound h.dirs[j].v a c l u b' _ (HR.out _ ?b0) hl HU.out).mono ?_
        case b0 => exact QJ.out.alloc (by omega) _
        rintro e w1 ⟨rfl, hb1⟩
        have z1 : wr.heap.size + 1 ≤ w1.heap.size := by have := hb1.size; simpa using this
        have Q1 : Hid (Below w.heap.size w w1) := (QJ.out.alloc (by omega) _).trans (hb1.mono (by simp <;> omega))
        clear hb1 d0 d1 d2 d3
        cases h1 : (u.k == 2)
        case true =>
          go_wp2_with fail
          exact ⟨⟨j + 1, by omega, by go_num, Q1.out.alloc (by omega) _, all_takeB hjt HJ.out (by rw [HT.out, h1])⟩, by simp [intOf]; omega⟩
        case false =>
          go_wp2_with fail
          go_ret
          exact ⟨ret_bool (fit_dirs_no hjt (by rw [HT.out, h1])), Q1.out.alloc (by omega) _⟩
    obtain ⟨b5, o5, ha, _, hbl, d0, d1, d2, d3⟩ := (HA.out.keep (Below.agree QR.out (Nat.le_refl _))).cells_ar k hlt
    subst ha
    obtain ⟨u, b', hu⟩ : ∃ u b', bval h.args[k].v l = (u, b') := ⟨_, _, rfl⟩
    have HU : Hid (bval h.args[k].v l = (u, b')) := hu
    have HT : Hid (argFitB l h.args[k] = (b' && !(u.k == 2))) := by unfold Hid argFitB; rw [hu]
    clear hu
    go_wp2_with fail
    refine (impl_bound h.args[k].v a c l u b' _ (HR.out _ ?b0) hl HU.out).mono ?_
    case b0 => exact QR.out.alloc (by omega) _
    rintro e w1 ⟨rfl, hb1⟩
    have z1 : wr.heap.size + 1 ≤ w1.heap.size := by have := hb1.size; simpa using this
    have B1 : Hid (Below W.heap.size W w1) := (HBR.out.alloc (by omega) _).trans (hb1.mono (by simp <;> omega))
    have Q1 : Hid (Below w.heap.size w w1) := (QR.out.alloc (by omega) _).trans (hb1.mono (by simp <;> omega))
    clear hb1 d0 d1 d2 d3 q0
    cases b' <;> cases h1 : (u.k == 2)
    all_goals
      go_wp2_with fail
      first
      | (exact ⟨⟨k + 1, by omega, by go_num, B1.out.alloc (by omega) _, all_takeB hlt HK.out (by rw [HT.out, h1]; rfl)⟩, by simp [intOf]; omega⟩)
      | (go_ret; exact ⟨ret_bool (fit_args_no hlt (by rw [HT.out, h1]; rfl)), Q1.out.alloc (by omega) _⟩)

/-- What is there stays, but for one block. -/
structure Kp (B : Nat) (w w' : World) : Prop where
  below : Below B w w'
  block : ∀ g, g < w.heap.size → g ≠ B → w'.heap[g]? = w.heap[g]?
theorem Kp.refl (B : Nat) (w : World) : Kp B w w := ⟨Below.refl _ _, fun _ _ _ => rfl⟩
theorem Kp.trans {B : Nat} {w w1 w2 : World} (h : Kp B w w1) (h' : Kp B w1 w2) : Kp B w w2 :=
  ⟨h.below.trans h'.below, fun g hg hn => (h'.block g (Nat.lt_of_lt_of_le hg h.below.size) hn).trans (h.block g hg hn)⟩
theorem Kp.of {B : Nat} {w w' : World} (h : Below w.heap.size w w') (hB : B ≤ w.heap.size) : Kp B w w' := ⟨h.mono hB, fun g hg _ => h.block g hg⟩
theorem Kp.set (B o : Nat) (w : World) (v : Value) : Kp B w (w.setCell ⟨B, o, none⟩ v) := ⟨Below.setCell (p := ⟨B, o, none⟩) (Below.refl B w) (Nat.le_refl B) v, fun g _ hn => Below.heap_setCell _ _ _ _ hn⟩
def st (b : Bool) (y : Int) : Int := if b = true then y else 14
theorem st_and (a b : Bool) (y : Int) : st (a && b) y = st b (st a y) := by cases a <;> cases b <;> rfl
abbrev At1 (w : World) (B : Nat) (y : Int) : Prop := w.heap[B]? = some (.cells #[.int .i64 y] 3 (0, 0))
abbrev AtV (w : World) (B : Nat) (a : Option Addr) (n c : Nat) : Prop := w.heap[B]? = some (.cells #[.slice a n c] 25 (0, 0))

set_option maxHeartbeats 4000000 in
set_option maxRecDepth 40000 in
theorem look_fit (h : Hd) (n : Nat) (a1 a2 a3 : Option Addr) (c1 c2 c3 : Nat) (Bv Bc : Nat) (y : Int) (a : Option Addr) (c : Nat) (l : List Ar) (w : World) (hv : AtV w Bv a l.length c) (hc : At1 w Bc y) (hne : Bv < Bc)
    (r1 : ArRow 0 Bv w a1 h.args) (r2 : DiRow 0 Bv w a2 h.dirs) (hr : ArRow 0 Bv w a l) (hl : l.length ≤ 1048576) (hb : HdBd 1048576 h) :
    Calls Try.prog 56 #[.agg #[.int .i64 h.k, .string h.al, .string h.nm, .slice a1 h.args.length c1, .slice a2 h.dirs.length c2, .slice a3 n c3], .pointer (some ⟨Bv, 0, none⟩), .pointer (some ⟨Bc, 0, none⟩)] w fun e w' =>
      e = .returned (.tuple #[]) ∧ At1 w' Bc (st (hdFitB l h) y) ∧ Kp Bc w w' := by
  have hz : Bc < w.heap.size := (Array.getElem?_eq_some_iff.1 hc).1
  have HC : Hid (At1 w Bc y) := hc
  have v0 := row_cell hv 0
  have vA := fun ob => (((Below.refl w.heap.size w).alloc (Nat.le_refl _) ob).cell (p := ⟨Bv, 0, none⟩) (show Bv < w.heap.size by omega)).trans v0
  have K1 : Hid (∀ W0, Below w.heap.size w W0 → ArRow 0 W0.heap.size W0 a1 h.args ∧ DiRow 0 W0.heap.size W0 a2 h.dirs ∧ ArRow 0 W0.heap.size W0 a l) := fun W0 hB =>
    ⟨Row.up (Row.wide r1 (Nat.le_refl _) (by omega)) hB, Row.up (Row.wide r2 (Nat.le_refl _) (by omega)) hB, Row.up (Row.wide hr (Nat.le_refl _) (by omega)) hB⟩
  have HB : Hid (HdBd 1048576 h) := hb
  clear hv hc r1 r2 hr hb v0
  go_enter Try.func56, Try.ntmps56
  go_wp2_with fail
  have B0 : Hid (Below w.heap.size w (w.alloc (.cells #[.int .i64 h.k, .string h.al, .string h.nm, .slice a1 h.args.length c1, .slice a2 h.dirs.length c2, .slice a3 n c3] 50))) := (Below.refl _ _).alloc (Nat.le_refl _) _
  refine (impl_fitIn h n a1 a2 a3 c1 c2 c3 a c l _ (K1.out _ B0.out).1 (K1.out _ B0.out).2.1 (K1.out _ B0.out).2.2 hl HB.out).mono ?_
  rintro e w1 ⟨rfl, hb1⟩
  have b1 : Below w.heap.size w w1 := B0.out.trans (hb1.mono (by simp))
  have Q1 : Hid (Below w.heap.size w w1) := b1
  have C1 : Hid (At1 w1 Bc y) := (b1.block Bc hz).trans HC.out
  have cc := fun o => row_cell C1.out o
  have cf := fun o => row_frozen C1.out o
  clear hb1 b1 vA
  cases hf : hdFitB l h
  · go_wp2_with fail
    go_end0
    exact ⟨rfl, by rw [hf]; have := row_set C1.out 0 (.int .i64 14); simpa [st] using this, (Kp.of Q1.out (by omega)).trans (Kp.set Bc 0 _ _)⟩
  · go_wp2_with fail
    go_end0
    exact ⟨rfl, by rw [hf]; exact C1.out, Kp.of Q1.out (by omega)⟩

def EachFit (l : List Ar) (s : Sels) : Prop := ∀ (a' : Option Addr) (c' Bv Bc : Nat) (y : Int) (a : Option Addr) (c : Nat) (w : World), AtV w Bv a l.length c → At1 w Bc y → Bv < Bc → SelRow 0 Bv w a' s → ArRow 0 Bv w a l → s.len ≤ 1048576 → SelsBd 1048576 s → l.length ≤ 1048576 →
    Calls Try.prog 55 #[.slice a' s.len c', .func (.func 56) #[] #[.pointer (some ⟨Bv, 0, none⟩), .pointer (some ⟨Bc, 0, none⟩)]] w fun e w' => e = .returned (.tuple #[]) ∧ At1 w' Bc (st (fitS l s) y) ∧ Kp Bc w w'
set_option maxHeartbeats 4000000 in
set_option maxRecDepth 40000 in
theorem each_fit (l : List Ar) (s : Sels) : EachFit l s := by
  induction hN : s.size using Nat.strongRecOn generalizing s with
  | _ N ih =>
  subst hN
  intro a' c' Bv Bc y a c w hv hc hne hs hr hn hbd hl
  have IH : Hid (∀ sub : Sels, sub.size < s.size → EachFit l sub) := fun sub hsub => ih sub.size hsub sub rfl
  have HS : Hid (SelFrom 0 Bv w a' 0 s) := hs.from_
  have HR : Hid (ArRow 0 Bv w a l) := hr
  have HB : Hid (SelsBd 1048576 s) := hbd
  have HV : Hid (AtV w Bv a l.length c) := hv
  have HC : Hid (At1 w Bc y) := hc
  have hz : Bc < w.heap.size := (Array.getElem?_eq_some_iff.1 hc).1
  clear hs hr ih hbd hv hc
  go_enter Try.func55, Try.ntmps55
  go_wp2_with fail
  go_loopw [8] (fun i w' => ∃ (k : Nat) (y' : Int) (rest : Sels), Hid (s.len = k + rest.len) ∧ i = .int .i64 k ∧ Hid (Kp Bc w w') ∧ Hid (rest.size ≤ s.size) ∧ Hid (SelsBd 1048576 rest) ∧ Hid (SelFrom 0 Bv w a' k rest) ∧ Hid (At1 w' Bc y') ∧ Hid (st (fitS l s) y = st (fitS l rest) y')) (fun i _ => s.len - (intOf i).toNat)
  case atStart => exact ⟨0, y, s, by simp [Hid], rfl, Kp.refl _ _, Nat.le_refl _, HB, HS, HC, rfl⟩
  case round =>
    obtain ⟨k, y', rest, HK, rfl, HKP, HZ, HD, HF, HM, HE⟩ := hrel
    have hzr := HKP.out.below.size
    have Vr : Hid (AtV wr Bv a l.length c) := (HKP.out.block Bv (by omega) (by omega)).trans HV.out
    cases rest with
    | nil =>
      have hk' : ¬ k < s.len := by rw [HK.out]; simp only [Sels.len]; omega
      have NE : Hid (At1 wr Bc (st (fitS l s) y)) := by rw [Hid, HE.out]; exact HM.out
      clear HE HM
      go_wp2_with fail
      go_end0
      exact ⟨rfl, NE.out, HKP.out⟩
    | cons h sub rest =>
      have hlt : k < s.len := by rw [HK.out]; simp only [Sels.len]; omega
      have HK2 : Hid (s.len = k + 1 + rest.len) := by rw [Hid, HK.out]; simp only [Sels.len]; omega
      obtain ⟨b, o, a1, c1, a2, c2, a3, c3, ha, _, hbl, d0, d1, d2, d3, d4, d5, r1, r2, r3, _⟩ := (HF.out.keep (Below.agree HKP.out.below (by omega))).step
      have HF2 : Hid (SelFrom 0 Bv w a' (k + 1) rest) := SelFrom.next HF.out
      subst ha
      have R1 : Hid (ArRow 0 Bv wr a1 h.args) := r1
      have R2 : Hid (DiRow 0 Bv wr a2 h.dirs) := r2
      have R3 : Hid (SelRow 0 Bv wr a3 sub) := r3
      have RR : Hid (ArRow 0 Bv wr a l) := HR.out.keep (Below.agree HKP.out.below (by omega))
      obtain ⟨e1, e2, e3, e4⟩ := HD.out
      have E1 : Hid (HdBd 1048576 h) := e1
      have E3 : Hid (SelsBd 1048576 sub) := e3
      have E4 : Hid (SelsBd 1048576 rest) := e4
      have HZ2 : Hid (rest.size ≤ s.size) := by have := HZ.out; simp only [Sels.size] at this; unfold Hid; omega
      have IS : Hid (EachFit l sub) := IH.out sub (by have := HZ.out; simp only [Sels.size] at this; omega)
      clear r1 r2 r3 e1 e3 e4
      go_wp2_with fail
      obtain ⟨W, hW⟩ : ∃ W, W = wr.alloc (.cells #[.int .i64 h.k, .string h.al, .string h.nm, .slice a1 h.args.length c1, .slice a2 h.dirs.length c2, .slice a3 sub.len c3] 50) := ⟨_, rfl⟩
      rw [← hW]
      have zW : W.heap.size = wr.heap.size + 1 := by rw [hW]; simp
      have B0 : Hid (Below wr.heap.size wr W) := by rw [hW]; exact (Below.refl _ _).alloc (Nat.le_refl _) _
      have HDW : Hid (W.heap[wr.heap.size]? = some (.cells #[.int .i64 h.k, .string h.al, .string h.nm, .slice a1 h.args.length c1, .slice a2 h.dirs.length c2, .slice a3 sub.len c3] 50 (0, 0))) := by rw [Hid, hW]; exact heap_alloc_new _ _
      clear hW d0 d1 d2 d3 d4 d5
      refine (look_fit h sub.len a1 a2 a3 c1 c2 c3 Bv Bc y' a c l _ ((B0.out.block Bv (by omega)).trans Vr.out) ((B0.out.block Bc (by omega)).trans HM.out) hne (R1.out.keep (Below.agree B0.out (by omega))) (R2.out.keep (Below.agree B0.out (by omega))) (RR.out.keep (Below.agree B0.out (by omega))) hl E1.out).mono ?_
      rintro e w1 ⟨rfl, hN1, hK1⟩
      have N1 : Hid (At1 w1 Bc (st (hdFitB l h) y')) := hN1
      have K1 : Hid (Kp Bc wr w1) := (Kp.of B0.out (by omega)).trans hK1
      have hd5 := row_cell ((hK1.block wr.heap.size (by omega) (by omega)).trans HDW.out) 5
      clear hN1 hK1 HDW
      go_wp2_with fail
      refine (IS.out a3 c3 Bv Bc _ a c _ ((K1.out.block Bv (by omega) (by omega)).trans Vr.out) N1.out hne (SelRow.keep R3.out (Below.agree K1.out.below (by omega))) (RR.out.keep (Below.agree K1.out.below (by omega))) e2 E3.out hl).mono ?_
      rintro e w2 ⟨rfl, hN2, hK2⟩
      have N2 : Hid (At1 w2 Bc (st (fitS l sub) (st (hdFitB l h) y'))) := hN2
      have K2 : Hid (Kp Bc w w2) := HKP.out.trans (K1.out.trans hK2)
      have HE2 : Hid (st (fitS l s) y = st (fitS l rest) (st (fitS l sub) (st (hdFitB l h) y'))) := by rw [Hid, HE.out]; simp only [fitS, st_and]
      clear hN2 hK2 hd5
      go_wp2_with fail
      exact ⟨⟨k + 1, _, rest, HK2, by go_num, K2, HZ2, E4, HF2, N2, HE2⟩, by simp [intOf]; omega⟩
end Go.Proofs.Ytdhgojeanebhoaa
