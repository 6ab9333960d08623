/- The law's marks are held: arguments, directives, selections, a definition. -/
import Derived.Test.YtlilfbcngncllaaGreatDoorDocMarkTwo
namespace Go.Proofs.YtlilfbcngncllaaGreatDoor
open Go.ChangeShapes Go.WideShapes Go.ChangeAt Go.RowKit
set_option linter.unusedVariables false

theorem mark_text_as (k : Nat) (K : Int) (w : World) (hK : K = (k : Int)) (h0 : 0 < k) (h1 : (k : Int) ≤ 4611686018427387904) :
    Calls Tryz.prog 28 #[.int .i64 K] w fun e w' => e = .returned (.string (G.mkT k)) ∧ Below w.heap.size w w' := by
  subst hK; exact G.mark_text k w h0 h1

set_option maxHeartbeats 4000000 in
set_option maxRecDepth 40000 in
theorem held_args (a : Option Addr) (c : Nat) (l : List Ar) (K : Nat) (kk : Int) (w : World) (hkk : kk = (K : Int)) (hr : ArRow 0 w.heap.size w a (mkAr K l)) (hk : 0 < K) (hb : ((K + 4 * l.length : Nat) : Int) ≤ 4611686018427387904) :
    Calls Tryz.prog 53 #[.slice a l.length c, .int .i64 kk] w fun e w' => ∃ r : Int, e = .returned (.int .i64 r) ∧ r = ((K + 4 * l.length : Nat) : Int) ∧ Below w.heap.size w w' := by
  have HR : Hid (ArRow 0 w.heap.size w a (mkAr K l)) := hr
  have HB : Hid _ := hb
  have hl9 : (l.length : Int) ≤ 4611686018427387904 := by omega
  clear hr hb
  go_enter Tryz.func53, Tryz.ntmps53
  go_wp2_with fail
  go_loopw [1, 5] (fun s i w' => ∃ (n q : Nat), n ≤ l.length ∧ i = .int .i64 n ∧ s = .int .i64 (q : Int) ∧ Hid (q = K + 4 * n) ∧ 0 < q ∧ Below w.heap.size w w') (fun _ i _ => l.length - (intOf i).toNat)
  case atStart => exact ⟨0, K, by omega, rfl, by rw [hkk], by simp [Hid], hk, Below.refl _ _⟩
  case round =>
    obtain ⟨n, q, hn1, rfl, rfl, HQ, hq0, hbw⟩ := hrel
    by_cases hlt : n < l.length
    case neg =>
      have HN : Hid ((q : Int) = ((K + 4 * l.length : Nat) : Int)) := by
        have h1 := HQ.out
        unfold Hid; omega
      go_wp2_with fail
      go_ret
      exact ⟨_, rfl, HN.out, hbw⟩
    have hq3 : (q : Int) ≤ 4611686018427387900 := by have h1 := HQ.out; have h2 := HB.out; omega
    have hlm : n < (mkAr K l).length := by rw [mkAr_len]; exact hlt
    have HX : (mkAr K l)[n] = fAr q l[n] := by
      have := mkAr_get K l n hlt
      rw [List.getElem?_eq_getElem hlm] at this
      rw [HQ.out]; simpa using this
    have hlt' : (n : Int) < l.length := by omega
    obtain ⟨b, o, ha, _, hbl, d0, d1, d2, d3⟩ := (HR.out.keep (Below.agree hbw (Nat.le_refl _))).cells_ar n hlm
    rw [HX] at d0 d1 d2 d3
    obtain ⟨w0, rfl⟩ : ∃ x, x = wr := ⟨_, rfl⟩
    replace d0 : w0.cell? ⟨b, o + n * 4, none⟩ = some (.string (G.mkT q)) := d0
    replace d1 : w0.cell? ⟨b, o + n * 4 + 1, none⟩ = some (.int .i64 ((q : Int) + 1)) := d1
    replace d2 : w0.cell? ⟨b, o + n * 4 + 2, none⟩ = some (.int .i64 ((q : Int) + 1 + 1)) := d2
    replace d3 : w0.cell? ⟨b, o + n * 4 + 3, none⟩ = some (.string (G.mkT (q + 3))) := d3
    subst ha
    have hbz := hbw.size
    clear HX
    go_wp2_with fail
    go_region_with (go_at_call 28; refine (mark_text_as (q) _ _ (by omega) (by omega) (by omega)).mono ?_; rintro e w1 ⟨rfl, hb1⟩; have t1 := fun j => hb1.cell (p := ⟨b, j, none⟩) (show b < w0.heap.size by omega))
    all_goals
      have p1 : Hid (Below w0.heap.size w0 w1) := (Below.refl _ _).drew.trans hb1
      have z1 : w0.heap.size ≤ w1.heap.size := hb1.size
      clear hb1
      go_wp2_with fail
      go_region_with (go_at_call 28; refine (mark_text_as (q + 3) _ _ (by omega) (by omega) (by omega)).mono ?_; rintro e w2 ⟨rfl, hb2⟩; have t2 := fun j => hb2.cell (p := ⟨b, j, none⟩) (show b < w1.heap.size by omega))
      all_goals
        have q1 : Hid (Below w.heap.size w w2) := hbw.trans ((p1.out.drew.trans (hb2.mono z1)).mono hbz)
        clear hb2
        go_wp2_with fail
        go_roundw
        case rel => exact ⟨n + 1, q + 4, by omega, by go_num, by first | go_num | exact val_int (by omega), by have := HQ.out; unfold Hid; omega, by omega, q1.out⟩
        case measure => simp [intOf]; omega

set_option maxHeartbeats 4000000 in
set_option maxRecDepth 40000 in
theorem held_dirs (a : Option Addr) (c : Nat) (l : List Di) (K : Nat) (kk : Int) (w : World) (hkk : kk = (K : Int)) (hr : DiRow 0 w.heap.size w a (mkDi K l)) (hk : 0 < K) (hb : ((K + 4 * l.length : Nat) : Int) ≤ 4611686018427387904) :
    Calls Tryz.prog 54 #[.slice a l.length c, .int .i64 kk] w fun e w' => ∃ r : Int, e = .returned (.int .i64 r) ∧ r = ((K + 4 * l.length : Nat) : Int) ∧ Below w.heap.size w w' := by
  have HR : Hid (DiRow 0 w.heap.size w a (mkDi K l)) := hr
  have HB : Hid _ := hb
  have hl9 : (l.length : Int) ≤ 4611686018427387904 := by omega
  clear hr hb
  go_enter Tryz.func54, Tryz.ntmps54
  go_wp2_with fail
  go_loopw [1, 5] (fun s i w' => ∃ (n q : Nat), n ≤ l.length ∧ i = .int .i64 n ∧ s = .int .i64 (q : Int) ∧ Hid (q = K + 4 * n) ∧ 0 < q ∧ Below w.heap.size w w') (fun _ i _ => l.length - (intOf i).toNat)
  case atStart => exact ⟨0, K, by omega, rfl, by rw [hkk], by simp [Hid], hk, Below.refl _ _⟩
  case round =>
    obtain ⟨n, q, hn1, rfl, rfl, HQ, hq0, hbw⟩ := hrel
    by_cases hlt : n < l.length
    case neg =>
      have HN : Hid ((q : Int) = ((K + 4 * l.length : Nat) : Int)) := by
        have h1 := HQ.out
        unfold Hid; omega
      go_wp2_with fail
      go_ret
      exact ⟨_, rfl, HN.out, hbw⟩
    have hq3 : (q : Int) ≤ 4611686018427387900 := by have h1 := HQ.out; have h2 := HB.out; omega
    have hlm : n < (mkDi K l).length := by rw [mkDi_len]; exact hlt
    have HX : (mkDi K l)[n] = fDi q l[n] := by
      have := mkDi_get K l n hlt
      rw [List.getElem?_eq_getElem hlm] at this
      rw [HQ.out]; simpa using this
    have hlt' : (n : Int) < l.length := by omega
    obtain ⟨b, o, ha, _, hbl, d0, d1, d2, d3⟩ := (HR.out.keep (Below.agree hbw (Nat.le_refl _))).cells_di n hlm
    rw [HX] at d0 d1 d2 d3
    obtain ⟨w0, rfl⟩ : ∃ x, x = wr := ⟨_, rfl⟩
    replace d0 : w0.cell? ⟨b, o + n * 4, none⟩ = some (.bool (G.m3 q)) := d0
    replace d1 : w0.cell? ⟨b, o + n * 4 + 1, none⟩ = some (.int .i64 ((q : Int) + 1)) := d1
    replace d2 : w0.cell? ⟨b, o + n * 4 + 2, none⟩ = some (.int .i64 ((q : Int) + 1 + 1)) := d2
    replace d3 : w0.cell? ⟨b, o + n * 4 + 3, none⟩ = some (.string (G.mkT (q + 3))) := d3
    subst ha
    have hbz := hbw.size
    have m1 := m3_of (z := (q : Int)) (k := q) rfl
    clear HX
    go_wp2_with fail
    go_region_with (go_at_call 28; refine (mark_text_as (q + 3) _ _ (by omega) (by omega) (by omega)).mono ?_; rintro e w1 ⟨rfl, hb1⟩; have t1 := fun j => hb1.cell (p := ⟨b, j, none⟩) (show b < w0.heap.size by omega))
    all_goals
      have q1 : Hid (Below w.heap.size w w1) := hbw.drew.trans (hb1.mono hbz)
      clear hb1
      go_wp2_with fail
      go_roundw
      case rel => exact ⟨n + 1, q + 4, by omega, by go_num, by first | go_num | exact val_int (by omega), by have := HQ.out; unfold Hid; omega, by omega, q1.out⟩
      case measure => simp [intOf]; omega

def HeldSels (l : Sels) : Prop := ∀ (a : Option Addr) (c K : Nat) (kk : Int) (w : World), kk = (K : Int) → SelRow 0 w.heap.size w a (mkS K l) → 0 < K → ((K + cS l : Nat) : Int) ≤ 4611686018427387904 →
    Calls Tryz.prog 30 #[.slice a l.len c, .int .i64 kk] w fun e w' => ∃ r : Int, e = .returned (.int .i64 r) ∧ r = ((K + cS l : Nat) : Int) ∧ Below w.heap.size w w'

set_option maxHeartbeats 4000000 in
set_option maxRecDepth 40000 in
theorem held_sels (l : Sels) : HeldSels l := by
  induction hN : l.size using Nat.strongRecOn generalizing l with
  | _ N ih =>
  subst hN
  intro a c K kk w hkk ho hk hb
  have IH : Hid (∀ sub : Sels, sub.size < l.size → HeldSels sub) := fun sub hsub => ih sub.size hsub sub rfl
  clear ih
  subst hkk
  have HO : Hid (SelFrom 0 w.heap.size w a 0 (mkS K l)) := ho.from_
  have hl9 : (l.len : Int) ≤ 4611686018427387904 := by have := len_cS l; omega
  have HB : Hid _ := hb
  clear ho hb
  go_enter Tryz.func30, Tryz.ntmps30
  go_wp2_with fail
  go_loopw [1, 5] (fun s i w' => ∃ (n q : Nat) (rest : Sels), Hid (l.len = n + rest.len) ∧ i = .int .i64 n ∧ s = .int .i64 (q : Int) ∧ Hid (rest.size ≤ l.size) ∧ Hid (q + cS rest = K + cS l) ∧ 0 < q ∧ Hid (SelFrom 0 w.heap.size w a n (mkS q rest)) ∧ Below w.heap.size w w') (fun _ i _ => l.len - (intOf i).toNat)
  case atStart => exact ⟨0, K, l, by simp [Hid], rfl, rfl, Nat.le_refl _, rfl, hk, HO, Below.refl _ _⟩
  case round =>
    obtain ⟨n, q, rest, HN, rfl, rfl, HZ, HQ, hq0, HF, hbw⟩ := hrel
    cases rest with
    | nil =>
      have hk' : ¬ n < l.len := by rw [HN.out]; simp only [Sels.len]; omega
      have HE : Hid ((q : Int) = ((K + cS l : Nat) : Int)) := by
        have := HQ.out
        simp only [cS] at this
        unfold Hid; omega
      clear HF
      go_wp2_with fail
      go_ret
      exact ⟨_, rfl, HE.out, hbw⟩
    | cons h sub rest =>
      have hlt : n < l.len := by rw [HN.out]; simp only [Sels.len]; omega
      have HN2 : Hid (l.len = n + 1 + rest.len) := by rw [Hid, HN.out]; simp only [Sels.len]; omega
      obtain ⟨b, o, a1, c1, a2, c2, a3, c3, ha, _, hbl, d0, d1, d2, d3, d4, d5, r1, r2, r3, _⟩ := (HF.out.keep (Below.agree hbw (Nat.le_refl _))).step
      have HF2 : Hid (SelFrom 0 w.heap.size w a (n + 1) (mkS (q + cHd h + cS sub) rest)) := SelFrom.next HF.out
      have hq9 := HQ.out
      simp only [cS] at hq9
      have hq4 : (q : Int) + ((cHd h + cS sub : Nat) : Int) ≤ 4611686018427387904 := by
        have h1 := HB.out
        omega
      have HQ4 : Hid _ := hq4
      have hq5 : (q : Int) ≤ 4611686018427387901 := by
        have : cHd h = 3 + 4 * h.args.length + 4 * h.dirs.length := rfl
        have h9 : 4 ≤ cHd h + cS sub + 1 := by omega
        omega
      clear hq4
      have HQ2 : Hid (q + cHd h + cS sub + cS rest = K + cS l) := by unfold Hid; omega
      have HCH : Hid (cHd h = 3 + 4 * h.args.length + 4 * h.dirs.length) := rfl
      have HZ2 : Hid (rest.size ≤ l.size) := by have := HZ.out; simp only [Sels.size] at this; unfold Hid; omega
      have IS : Hid (HeldSels sub) := IH.out sub (by have := HZ.out; simp only [Sels.size] at this; omega)
      obtain ⟨w0, rfl⟩ : ∃ x, x = wr := ⟨_, rfl⟩
      replace d0 : w0.cell? ⟨b, o + n * 6, none⟩ = some (.int .i64 (q : Int)) := d0
      replace d1 : w0.cell? ⟨b, o + n * 6 + 1, none⟩ = some (.string (G.mkT (q + 1))) := d1
      replace d2 : w0.cell? ⟨b, o + n * 6 + 2, none⟩ = some (.string (G.mkT (q + 2))) := d2
      simp only [mkHd, mkAr_len, mkDi_len, mkS_len] at d3 d4 d5
      have R1 : Hid (ArRow 0 w.heap.size w0 a1 (mkAr (q + 3) h.args)) := r1
      have R2 : Hid (DiRow 0 w.heap.size w0 a2 (mkDi (q + 3 + 4 * h.args.length) h.dirs)) := r2
      have R3 : Hid (SelRow 0 w.heap.size w0 a3 (mkS (q + cHd h) sub)) := r3
      subst ha
      have hbz := hbw.size
      have hbl' : b < w0.heap.size := by omega
      clear hq9 r1 r2 r3 HF HQ
      have D2 : Hid _ := d2
      have D3 : Hid _ := d3
      have D4 : Hid _ := d4
      have D5 : Hid _ := d5
      go_wp2_with fail
      go_region_with (go_at_call 28; refine (mark_text_as (q + 1) _ _ (by omega) (by omega) (by omega)).mono ?_; rintro e w1 ⟨rfl, hb1⟩; have t1 := fun j => hb1.cell (p := ⟨b, j, none⟩) hbl')
      all_goals
        have p1 : Hid (Below w0.heap.size w0 w1) := (Below.refl _ _).drew.trans hb1
        have z1 : w0.heap.size ≤ w1.heap.size := hb1.size
        clear hb1
        go_wp2_with fail
        go_region_with (go_at_call 28; refine (mark_text_as (q + 2) _ _ (by omega) (by omega) (by omega)).mono ?_; rintro e w2 ⟨rfl, hb2⟩; have t2 := fun j => hb2.cell (p := ⟨b, j, none⟩) (show b < w1.heap.size by omega))
        all_goals
          have p2 : Hid (Below w0.heap.size w0 w2) := p1.out.drew.trans (hb2.mono z1)
          have z2 : w0.heap.size ≤ w2.heap.size := Nat.le_trans z1 hb2.size
          clear hb2
          go_wp2_with fail
          refine Calls.mono (held_args a1 c1 h.args (q + 3) _ _ (by have := HQ4.out; have := HCH.out; omega) (Row.wide (Row.keep R1.out (Below.agree p2.out hbz)) (Nat.le_refl _) (by have := HQ4.out; have := HCH.out; omega)) (by have := HQ4.out; have := HCH.out; omega) (by have := HQ4.out; have := HCH.out; omega)) ?_
          rintro e w3 ⟨r3, rfl, hr3, hb3⟩
          have p3 : Hid (Below w0.heap.size w0 w3) := p2.out.trans (hb3.mono z2)
          have z3 : w0.heap.size ≤ w3.heap.size := Nat.le_trans z2 hb3.size
          have t3 := fun j => p3.out.cell (p := ⟨b, j, none⟩) hbl'
          have hn3 : ¬ r3 < 0 := by omega
          clear hb3 t1 t2
          go_wp2_with fail
          refine Calls.mono (held_dirs a2 c2 h.dirs (q + 3 + 4 * h.args.length) _ _ (by have := HQ4.out; have := HCH.out; omega) (Row.wide (Row.keep R2.out (Below.agree p3.out hbz)) (Nat.le_refl _) (by have := HQ4.out; have := HCH.out; omega)) (by have := HQ4.out; have := HCH.out; omega) (by have := HQ4.out; have := HCH.out; omega)) ?_
          rintro e w4 ⟨r4, rfl, hr4, hb4⟩
          have p4 : Hid (Below w0.heap.size w0 w4) := p3.out.trans (hb4.mono z3)
          have z4 : w0.heap.size ≤ w4.heap.size := Nat.le_trans z3 hb4.size
          have t4 := fun j => p4.out.cell (p := ⟨b, j, none⟩) hbl'
          have hn4 : ¬ r4 < 0 := by omega
          clear hb4 t3 hr3
          go_wp2_with fail
          refine Calls.mono (IS.out a3 c3 (q + cHd h) _ _ (by have := HQ4.out; have := HCH.out; omega) (SelRow.wide (SelRow.keep R3.out (Below.agree p4.out hbz)) (Nat.le_refl _) (by have := HQ4.out; have := HCH.out; omega)) (by have := HQ4.out; have := HCH.out; omega) (by have := HQ4.out; have := HCH.out; omega)) ?_
          rintro e w5 ⟨r5, rfl, hr5, hb5⟩
          have q5 : Hid (Below w.heap.size w w5) := hbw.trans ((p4.out.trans (hb5.mono z4)).mono hbz)
          have hn5 : ¬ r5 < 0 := by omega
          clear hb5 t4 hr4
          go_wp2_with fail
          first
            | exact ⟨⟨n + 1, q + cHd h + cS sub, rest, HN2, by go_num, val_int (by have := HQ4.out; have := HCH.out; omega), HZ2, HQ2, by omega, HF2, q5.out⟩, by simp [intOf]; omega⟩
            | (go_roundw
               case rel => exact ⟨n + 1, q + cHd h + cS sub, rest, HN2, by go_num, val_int (by have := HQ4.out; have := HCH.out; omega), HZ2, HQ2, by omega, HF2, q5.out⟩
               case measure => simp [intOf]; omega)

end Go.Proofs.YtlilfbcngncllaaGreatDoor
