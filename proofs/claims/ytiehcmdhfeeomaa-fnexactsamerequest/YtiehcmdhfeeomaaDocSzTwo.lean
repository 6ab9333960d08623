/- The same of selections, definitions and documents. -/
import Derived.Test.YtiehcmdhfeeomaaDocSz
namespace Go.Proofs.Ytiehcmdhfeeomaa
open Go.ChangeShapes Go.WideShapes Go.ChangeAt Go.RowKit
set_option linter.unusedVariables false

def SzSels (l : Sels) : Prop := ∀ (a : Option Addr) (c : Nat) (n : Int) (w : World), SelRow 0 w.heap.size w a l → l.len ≤ maxLen → SelsBd maxLen l → 0 ≤ n → n ≤ 1048576 →
    Calls Try.prog 54 #[.slice a l.len c, .int .i64 n] w fun e w' => ∃ m, e = .returned (.int .i64 m) ∧ Sz n m (l.len ≤ 1048576 ∧ SelsBd 1048576 l) ∧ Below w.heap.size w w'

set_option maxHeartbeats 1000000 in
theorem sz_sel (h : Hd) (sub : Sels) (ih : SzSels sub) (a1 a2 a3 : Option Addr) (c1 c2 c3 : Nat) (n : Int) (w : World) (r1 : ArRow 0 w.heap.size w a1 h.args) (r2 : DiRow 0 w.heap.size w a2 h.dirs) (r3 : SelRow 0 w.heap.size w a3 sub)
    (hb : HdBd maxLen h) (hl : sub.len ≤ maxLen) (hs : SelsBd maxLen sub) (h0 : 0 ≤ n) (h1 : n ≤ 1048576) :
    Calls Try.prog 73 #[.agg #[.int .i64 h.k, .string h.al, .string h.nm, .slice a1 h.args.length c1, .slice a2 h.dirs.length c2, .slice a3 sub.len c3], .int .i64 n] w fun e w' =>
      ∃ m, e = .returned (.int .i64 m) ∧ Sz n m (HdBd 1048576 h ∧ sub.len ≤ 1048576 ∧ SelsBd 1048576 sub) ∧ Below w.heap.size w w' := by
  obtain ⟨b1, b2, b3, b4, b5, b6⟩ := hb
  have b1' := b1
  have b2' := b2
  unfold maxLen at b1' b2'
  have H4 : Hid (∀ x ∈ h.args, ArBd maxLen x) := b4
  have H6 : Hid (∀ x ∈ h.dirs, DiBd maxLen x) := b6
  have HS : Hid (SelsBd maxLen sub) := hs
  have HI : Hid (SzSels sub) := ih
  have B0 : Below w.heap.size w (w.alloc (.cells #[.int .i64 h.k, .string h.al, .string h.nm, .slice a1 h.args.length c1, .slice a2 h.dirs.length c2, .slice a3 sub.len c3] 127)) := (Below.refl _ _).alloc (Nat.le_refl _) _
  have R1 : Hid (ArRow 0 _ _ a1 h.args) := Row.up r1 B0
  have R2 : Hid (DiRow 0 _ _ a2 h.dirs) := Row.up r2 B0
  have R3 : Hid (SelRow 0 _ _ a3 sub) := SelRow.up r3 B0
  have HB : Hid _ := B0
  clear b4 b6 hs ih r1 r2 r3 B0
  by_cases g1 : n - h.al.size < 0
  · go_enter Try.func73, Try.ntmps73
    go_wp2_with fail
    go_ret
    exact ⟨-1, rfl, Sz.neg h0, HB.out⟩
  by_cases g2 : n - h.al.size - h.nm.size < 0
  · go_enter Try.func73, Try.ntmps73
    go_wp2_with fail
    go_ret
    exact ⟨-1, rfl, Sz.neg h0, HB.out⟩
  go_enter Try.func73, Try.ntmps73
  go_wp2_with fail
  refine (sz_args a1 c1 h.args _ _ R1.out b3 H4.out (by omega) (by omega)).mono ?_
  rintro e w1 ⟨m1, rfl, hm, hb1⟩
  have M1 : Hid _ := hm
  clear hm
  obtain ⟨hc1, hf1⟩ := bcell hb1
  have hz1 : w.heap.size + 1 ≤ w1.heap.size := by have := hb1.size; simpa using this
  have hy1 : w.heap.size < w1.heap.size := by omega
  have R2 : Hid (DiRow 0 w1.heap.size w1 a2 h.dirs) := Row.up R2.out hb1
  have R3 : Hid (SelRow 0 w1.heap.size w1 a3 sub) := SelRow.up R3.out hb1
  have q1 : Below w.heap.size w w1 := HB.out.trans (hb1.mono (by simp))
  have u1 := M1.out.1
  by_cases n1 : m1 < 0
  · go_wp2_with fail
    go_ret
    exact ⟨-1, rfl, Sz.neg h0, q1⟩
  go_wp2_with fail
  refine (sz_dirs a2 c2 h.dirs _ _ R2.out b5 H6.out (by omega) (by omega)).mono ?_
  rintro e w2 ⟨m2, rfl, hm, hb2⟩
  have M2 : Hid _ := hm
  clear hm
  obtain ⟨hc2, hf2⟩ := bcell hb2
  have hz2 := hb2.size
  have hy2 : w.heap.size < w2.heap.size := by omega
  have R3 : Hid (SelRow 0 w2.heap.size w2 a3 sub) := SelRow.up R3.out hb2
  have q2 : Below w.heap.size w w2 := q1.trans (hb2.mono q1.size)
  have u2 := M2.out.1
  by_cases n2 : m2 < 0
  · go_wp2_with fail
    go_ret
    exact ⟨-1, rfl, Sz.neg h0, q2⟩
  go_wp2_with fail
  refine (HI.out a3 c3 _ _ R3.out hl HS.out (by omega) (by omega)).mono ?_
  rintro e w3 ⟨m3, rfl, hm, hb3⟩
  have M3 : Hid _ := hm
  clear hm
  have q3 : Below w.heap.size w w3 := q2.trans (hb3.mono q2.size)
  have u3 := M3.out.1
  by_cases n3 : m3 < 0
  · go_wp2_with fail
    go_ret
    exact ⟨-1, rfl, Sz.neg h0, q3⟩
  go_wp2_with fail
  go_ret
  have v1 := M1.out.2.2 (by omega)
  have v2 := M2.out.2.2 (by omega)
  have v3 := M3.out.2.2 (by omega)
  exact ⟨m3, rfl, ⟨by omega, by omega, fun _ => ⟨⟨by omega, by omega, v1.1, v1.2, v2.1, v2.2⟩, v3.1, v3.2⟩⟩, q3⟩

set_option maxHeartbeats 1000000 in
theorem sz_sels (l : Sels) : SzSels l := by
  induction hN : l.size using Nat.strongRecOn generalizing l with
  | _ N ih =>
  subst hN
  intro a c n w hr hl hbd h0 h1
  unfold maxLen at hl
  have IH : Hid (∀ sub : Sels, sub.size < l.size → SzSels sub) := fun sub hsub => ih sub.size hsub sub rfl
  have HR : Hid (SelFrom 0 w.heap.size w a 0 l) := hr.from_
  have HB : Hid (SelsBd maxLen l) := hbd
  clear hr ih hbd
  by_cases hz : n - l.len < 0
  · go_enter Try.func54, Try.ntmps54
    go_wp2_with fail
    go_ret
    exact ⟨-1, rfl, Sz.neg h0, Below.refl _ _⟩
  go_enter Try.func54, Try.ntmps54
  go_wp2_with fail
  go_loopw [1, 5] (fun r i w' => ∃ (k : Nat) (m : Int) (rest : Sels), l.len = k + rest.len ∧ i = .int .i64 k ∧ r = .int .i64 m ∧ 0 ≤ m ∧ m ≤ n ∧ Below w.heap.size w w' ∧ Hid (rest.size ≤ l.size) ∧ Hid (SelsBd maxLen rest) ∧ Hid (SelFrom 0 w.heap.size w a k rest) ∧ Hid (SelsBd 1048576 rest → SelsBd 1048576 l)) (fun _ i _ => l.len - (intOf i).toNat)
  case atStart => exact ⟨0, _, l, by omega, rfl, rfl, by omega, by omega, Below.refl _ _, Nat.le_refl _, HB, HR, id⟩
  case round =>
    rename_i wr
    obtain ⟨k, m, rest, hk, rfl, rfl, hm0, hm1, hb, HZ, HD, HF, HC⟩ := hrel
    cases rest with
    | nil =>
      have hk' : ¬ k < l.len := by rw [hk]; simp only [Sels.len]; omega
      clear hk
      go_wp2_with fail
      go_ret
      exact ⟨m, rfl, ⟨hm1, by omega, fun _ => ⟨by omega, HC.out trivial⟩⟩, hb⟩
    | cons h sub rest =>
      have hlt : k < l.len := by rw [hk]; simp only [Sels.len]; omega
      have hk' : Hid (l.len = k + 1 + rest.len) := by rw [Hid, hk]; simp only [Sels.len]; omega
      obtain ⟨b, o, a1, c1, a2, c2, a3, c3, ha, _, hbl, d0, d1, d2, d3, d4, d5, r1, r2, r3, _⟩ := (HF.out.keep (Below.agree hb (Nat.le_refl _))).step
      have HF2 : Hid (SelFrom 0 w.heap.size w a (k + 1) rest) := SelFrom.next HF.out
      subst ha
      have R1 : Hid (ArRow 0 wr.heap.size wr a1 h.args) := Row.wide r1 (Nat.le_refl _) hb.size
      have R2 : Hid (DiRow 0 wr.heap.size wr a2 h.dirs) := Row.wide r2 (Nat.le_refl _) hb.size
      have R3 : Hid (SelRow 0 wr.heap.size wr a3 sub) := SelRow.wide r3 (Nat.le_refl _) hb.size
      have HD' := HD.out
      obtain ⟨e1, e2, e3, e4⟩ := HD'
      have E1 : Hid (HdBd maxLen h) := e1
      have E3 : Hid (SelsBd maxLen sub) := e3
      have E4 : Hid (SelsBd maxLen rest) := e4
      have HZ2 : Hid (rest.size ≤ l.size) := by have := HZ.out; simp only [Sels.size] at this; unfold Hid; omega
      have IS : Hid (SzSels sub) := IH.out sub (by have := HZ.out; simp only [Sels.size] at this; omega)
      clear r1 r2 r3 e1 e3 e4 hk
      go_wp2_with fail
      refine (sz_sel h sub IS.out a1 a2 a3 c1 c2 c3 m _ R1.out R2.out R3.out E1.out e2 E3.out hm0 (by omega)).mono ?_
      rintro e w1 ⟨m1, rfl, hm, hb1⟩
      have HM : Hid _ := hm
      clear hm d0 d1 d2 d3 d4 d5
      by_cases hneg : m1 < 0
      · go_wp2_with fail
        go_ret
        exact ⟨-1, rfl, Sz.neg h0, hb.trans (hb1.mono hb.size)⟩
      · go_wp2_with fail
        go_roundw
        case rel =>
          have hv := HM.out.2.2 (by omega)
          exact ⟨k + 1, m1, rest, hk'.out, by go_num, rfl, by omega, by have := HM.out.1; omega, hb.trans (hb1.mono hb.size), HZ2, E4, HF2, fun hr => HC.out ⟨hv.1, hv.2.1, hv.2.2, hr⟩⟩
        case measure => simp [intOf]; omega

set_option maxHeartbeats 1000000 in
theorem sz_def (x : De) (a3 : Option Addr) (c3 : Nat) (n : Int) (w : World) (r3 : SelRow 0 w.heap.size w a3 x.sels) (hb : DeBd maxLen x) (h0 : 0 ≤ n) (h1 : n ≤ 1048576) :
    Calls Try.prog 36 #[.agg #[.int .i64 x.k, .string x.nm, .string x.on, .slice a3 x.sels.len c3], .int .i64 n] w fun e w' => ∃ m, e = .returned (.int .i64 m) ∧ Sz n m (DeBd 1048576 x) ∧ Below w.heap.size w w' := by
  obtain ⟨b1, b2, b3, b4⟩ := hb
  have b1' := b1
  have b2' := b2
  unfold maxLen at b1' b2'
  have HS : Hid (SelsBd maxLen x.sels) := b4
  have B0 : Below w.heap.size w (w.alloc (.cells #[.int .i64 x.k, .string x.nm, .string x.on, .slice a3 x.sels.len c3] 68)) := (Below.refl _ _).alloc (Nat.le_refl _) _
  have R3 : Hid (SelRow 0 _ _ a3 x.sels) := SelRow.up r3 B0
  have HB : Hid _ := B0
  clear b4 r3 B0
  by_cases g1 : n - x.nm.size < 0
  · go_enter Try.func36, Try.ntmps36
    go_wp2_with fail
    go_ret
    exact ⟨-1, rfl, Sz.neg h0, HB.out⟩
  by_cases g2 : n - x.nm.size - x.on.size < 0
  · go_enter Try.func36, Try.ntmps36
    go_wp2_with fail
    go_ret
    exact ⟨-1, rfl, Sz.neg h0, HB.out⟩
  go_enter Try.func36, Try.ntmps36
  go_wp2_with fail
  refine (sz_sels x.sels a3 c3 _ _ R3.out b3 HS.out (by omega) (by omega)).mono ?_
  rintro e w3 ⟨m3, rfl, hm, hb3⟩
  have M3 : Hid _ := hm
  clear hm
  have q3 : Below w.heap.size w w3 := HB.out.trans (hb3.mono (by simp))
  have u3 := M3.out.1
  by_cases n3 : m3 < 0
  · go_wp2_with fail
    go_ret
    exact ⟨-1, rfl, Sz.neg h0, q3⟩
  go_wp2_with fail
  go_ret
  have v3 := M3.out.2.2 (by omega)
  exact ⟨m3, rfl, ⟨by omega, by omega, fun _ => ⟨by omega, by omega, v3.1, v3.2⟩⟩, q3⟩

set_option maxHeartbeats 1000000 in
theorem sz_defs (a : Option Addr) (c : Nat) (l : List De) (n : Int) (w : World) (hr : DeRow 0 w.heap.size w a l) (hbd : DefsBd maxLen l) (h0 : 0 ≤ n) (h1 : n ≤ 1048576) :
    Calls Try.prog 20 #[.slice a l.length c, .int .i64 n] w fun e w' => ∃ m, e = .returned (.int .i64 m) ∧ Sz n m (DefsBd 1048576 l) ∧ Below w.heap.size w w' := by
  obtain ⟨hl, ht⟩ := hbd
  unfold maxLen at hl
  by_cases hz : n - l.length < 0
  · go_enter Try.func20, Try.ntmps20
    go_wp2_with fail
    go_ret
    exact ⟨-1, rfl, Sz.neg h0, Below.refl _ _⟩
  · have HR : Hid (DeRow 0 w.heap.size w a l) := hr
    have HT : Hid (∀ x ∈ l, DeBd maxLen x) := ht
    clear hr ht
    go_enter Try.func20, Try.ntmps20
    go_wp2_with fail
    go_loopw [1, 5] (fun r i w' => ∃ (k : Nat) (m : Int), k ≤ l.length ∧ i = .int .i64 k ∧ r = .int .i64 m ∧ 0 ≤ m ∧ m ≤ n ∧ Below w.heap.size w w' ∧ Hid (∀ x ∈ l.take k, DeBd 1048576 x)) (fun _ i _ => l.length - (intOf i).toNat)
    case atStart => exact ⟨0, _, by omega, rfl, rfl, by omega, by omega, Below.refl _ _, by simp [Hid]⟩
    case round =>
      rename_i wr
      obtain ⟨k, m, hk, rfl, rfl, hm0, hm1, hb, HK⟩ := hrel
      by_cases hlt : k < l.length
      · obtain ⟨b, o, a3, c3, ha, _, hbl, d0, d1, d2, d3, r3⟩ := (HR.out.keep (Below.agree hb (Nat.le_refl _))).cells k hlt
        subst ha
        have R3 : Hid (SelRow 0 wr.heap.size wr a3 l[k].sels) := SelRow.wide r3 (Nat.le_refl _) hb.size
        have HX : Hid (DeBd maxLen l[k]) := HT.out l[k] (List.getElem_mem hlt)
        clear r3
        go_wp2_with fail
        refine (sz_def l[k] a3 c3 m _ R3.out HX.out hm0 (by omega)).mono ?_
        rintro e w1 ⟨m1, rfl, hm, hb1⟩
        have HM : Hid (Sz m m1 (DeBd 1048576 l[k])) := hm
        clear hm d0 d1 d2 d3
        by_cases hneg : m1 < 0
        · go_wp2_with fail
          go_ret
          exact ⟨-1, rfl, Sz.neg h0, hb.trans (hb1.mono hb.size)⟩
        · go_wp2_with fail
          go_roundw
          case rel => exact ⟨k + 1, m1, by omega, by go_num, rfl, by omega, by have := HM.out.1; omega, hb.trans (hb1.mono hb.size), all_take hlt HK.out (HM.out.2.2 (by omega))⟩
          case measure => simp [intOf]; omega
      · go_wp2_with fail
        go_ret
        rw [List.take_of_length_le (by omega)] at HK
        exact ⟨m, rfl, ⟨hm1, by omega, fun _ => ⟨by omega, HK.out⟩⟩, hb⟩
set_option maxHeartbeats 1000000 in
theorem sz_doc (a : Option Addr) (c : Nat) (l : List De) (n : Int) (w : World) (hr : DeRow 0 w.heap.size w a l) (hbd : DefsBd maxLen l) (h0 : 0 ≤ n) (h1 : n ≤ 1048576) :
    Calls Try.prog 6 #[.agg #[.slice a l.length c], .int .i64 n] w fun e w' => ∃ m, e = .returned (.int .i64 m) ∧ Sz n m (DefsBd 1048576 l) ∧ Below w.heap.size w w' := by
  have B0 : Below w.heap.size w (w.alloc (.cells #[.slice a l.length c] 24)) := (Below.refl _ _).alloc (Nat.le_refl _) _
  have R3 : Hid (DeRow 0 _ _ a l) := DeRow.up hr B0
  have HB : Hid _ := B0
  have HD : Hid _ := hbd
  clear hr B0 hbd
  go_enter Try.func6, Try.ntmps6
  go_wp2_with fail
  refine (sz_defs a c l _ _ R3.out HD.out (by omega) (by omega)).mono ?_
  rintro e w3 ⟨m3, rfl, hm, hb3⟩
  have M3 : Hid _ := hm
  clear hm
  have q3 : Below w.heap.size w w3 := HB.out.trans (hb3.mono (by simp))
  by_cases n3 : m3 < 0
  · go_wp2_with fail
    go_ret
    exact ⟨-1, rfl, Sz.neg h0, q3⟩
  go_wp2_with fail
  go_ret
  exact ⟨m3, rfl, M3.out, q3⟩
end Go.Proofs.Ytiehcmdhfeeomaa
