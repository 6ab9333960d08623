/- The law's marks held against what lies there. -/
import Derived.Test.YtjmkcbjfjejaaaaOuMark
import Derived.Deep.RegionWith
namespace Go.Proofs.Ytjmkcbjfjejaaaa.G
open Go.ChangeShapes Go.WideShapes Go.ChangeAt Go.RowKit
set_option linter.unusedVariables false

theorem mark_text_as (k : Nat) (K : Int) (w : World) (hK : K = (k : Int)) (h0 : 0 < k) (h1 : (k : Int) ≤ 4611686018427387904) :
    Calls Try.prog 46 #[.int .i64 K] w fun e w' => e = .returned (.string (mkT k)) ∧ Below w.heap.size w w' := by
  subst hK; exact mark_text k w h0 h1
set_option maxHeartbeats 4000000 in
set_option maxRecDepth 40000 in
theorem held_keys (a : Option Addr) (c : Nat) (l : List ByteArray) (K : Nat) (kk : Int) (w : World) (hkk : kk = (K : Int)) (hr : KeRow 0 w.heap.size w a (mkKe K l)) (hk : 0 < K) (hb : ((K + l.length : Nat) : Int) ≤ 4611686018427387904) :
    Calls Try.prog 32 #[.slice a l.length c, .int .i64 kk] w fun e w' => ∃ r : Int, e = .returned (.int .i64 r) ∧ r = ((K + l.length : Nat) : Int) ∧ Below w.heap.size w w' := by
  have HR : Hid (KeRow 0 w.heap.size w a (mkKe K l)) := hr
  have HB : Hid _ := hb
  have hl9 : (l.length : Int) ≤ 4611686018427387904 := by omega
  clear hr hb
  go_enter Try.func32, Try.ntmps32
  go_wp2_with fail
  go_loopw [1, 5] (fun s i w' => ∃ (n q : Nat), n ≤ l.length ∧ i = .int .i64 n ∧ s = .int .i64 (q : Int) ∧ Hid (q = K + n) ∧ 0 < q ∧ Below w.heap.size w w') (fun _ i _ => l.length - (intOf i).toNat)
  case atStart => exact ⟨0, K, by omega, rfl, by rw [hkk], by simp [Hid], hk, Below.refl _ _⟩
  case round =>
    obtain ⟨n, q, hn1, rfl, rfl, HQ, hq0, hbw⟩ := hrel
    by_cases hlt : n < l.length
    case neg =>
      have HN : Hid ((q : Int) = ((K + l.length : Nat) : Int)) := by
        have h1 := HQ.out
        unfold Hid; omega
      go_wp2_with fail
      go_ret
      exact ⟨_, rfl, HN.out, hbw⟩
    have hq3 : (q : Int) ≤ 4611686018427387903 := by have h1 := HQ.out; have h2 := HB.out; omega
    have hlm : n < (mkKe K l).length := by rw [mkKe_len]; exact hlt
    have HX : (mkKe K l)[n] = mkT q := by
      have := mkKe_get K l n hlt
      rw [List.getElem?_eq_getElem hlm] at this
      rw [HQ.out]; simpa using this
    have hlt' : (n : Int) < l.length := by omega
    obtain ⟨b, o, ha, _, hbl, d0⟩ := KeRow.cells (KeRow.keep HR.out (agree hbw (Nat.le_refl _))) n hlm
    rw [HX] at d0
    obtain ⟨w0, rfl⟩ : ∃ x, x = wr := ⟨_, rfl⟩
    subst ha
    have hbz := hbw.size
    clear HX
    go_wp2_with fail
    go_region_with (go_at_call 46; refine (mark_text_as (q) _ _ (by omega) (by omega) (by omega)).mono ?_; rintro e w1 ⟨rfl, hb1⟩; have t1 := fun j => hb1.cell (p := ⟨b, j, none⟩) (show b < w0.heap.size by omega))
    all_goals
      have q1 : Hid (Below w.heap.size w w1) := hbw.drew.trans (hb1.mono hbz)
      clear hb1
      go_wp2_with fail
      go_roundw
      case rel => exact ⟨n + 1, q + 1, by omega, by go_num, by first | go_num | exact val_int (by omega), by have := HQ.out; unfold Hid; omega, by omega, q1.out⟩
      case measure => simp [intOf]; omega

def HeldOus (l : Ous) : Prop := ∀ (a : Option Addr) (c K : Nat) (kk : Int) (w : World), kk = (K : Int) → OuRow 0 w.heap.size w a (mkO K l) → 0 < K → ((K + cO l : Nat) : Int) ≤ 4611686018427387904 →
    Calls Try.prog 33 #[.slice a l.len c, .int .i64 kk] w fun e w' => ∃ r : Int, e = .returned (.int .i64 r) ∧ r = ((K + cO l : Nat) : Int) ∧ Below w.heap.size w w'

set_option maxHeartbeats 8000000 in
set_option maxRecDepth 40000 in
theorem held_ous (l : Ous) : HeldOus l := by
  induction hN : l.size using Nat.strongRecOn generalizing l with
  | _ N ih =>
  subst hN
  intro a c K kk w hkk ho hk hb
  have IH : Hid (∀ sub : Ous, sub.size < l.size → HeldOus sub) := fun sub hsub => ih sub.size hsub sub rfl
  clear ih
  subst hkk
  have HO : Hid (OuFrom 0 w.heap.size w a 0 (mkO K l)) := ho.from_
  have hl9 : (l.len : Int) ≤ 4611686018427387904 := by have := len_cO l; omega
  have HB : Hid _ := hb
  clear ho hb
  go_enter Try.func33, Try.ntmps33
  go_wp2_with fail
  go_loopw [1, 5] (fun s i w' => ∃ (n q : Nat) (rest : Ous), Hid (l.len = n + rest.len) ∧ i = .int .i64 n ∧ s = .int .i64 (q : Int) ∧ Hid (rest.size ≤ l.size) ∧ Hid (q + cO rest = K + cO l) ∧ 0 < q ∧ Hid (OuFrom 0 w.heap.size w a n (mkO q rest)) ∧ Below w.heap.size w w') (fun _ i _ => l.len - (intOf i).toNat)
  case atStart => exact ⟨0, K, l, by simp [Hid], rfl, rfl, Nat.le_refl _, rfl, hk, HO, Below.refl _ _⟩
  case round =>
    obtain ⟨n, q, rest, HN, rfl, rfl, HZ, HQ, hq0, HF, hbw⟩ := hrel
    cases rest with
    | nil =>
      have hk' : ¬ n < l.len := by rw [HN.out]; simp only [Ous.len]; omega
      have HE : Hid ((q : Int) = ((K + cO l : Nat) : Int)) := by
        have := HQ.out
        simp only [cO] at this
        unfold Hid; omega
      clear HF
      go_wp2_with fail
      go_ret
      exact ⟨_, rfl, HE.out, hbw⟩
    | cons h sub rest =>
      have hlt : n < l.len := by rw [HN.out]; simp only [Ous.len]; omega
      have HN2 : Hid (l.len = n + 1 + rest.len) := by rw [Hid, HN.out]; simp only [Ous.len]; omega
      obtain ⟨b, o, a1, c1, a2, c2, ha, _, hbl, d0, d1, d2, d3, d4, hc, r1, r2, _⟩ := OuFrom.step (OuFrom.keep HF.out (agree hbw (Nat.le_refl _)))
      have HF2 : Hid (OuFrom 0 w.heap.size w a (n + 1) (mkO (q + cOh h + cO sub) rest)) := by
        obtain ⟨_, _, _, _, _, _, _, _, _, _, _, _, _, _, _, _, _, rf9⟩ := OuFrom.step HF.out
        exact rf9
      have hq9 := HQ.out
      simp only [cO] at hq9
      have hq4 : (q : Int) + ((cOh h + cO sub : Nat) : Int) ≤ 4611686018427387904 := by
        have h1 := HB.out
        omega
      have HQ4 : Hid _ := hq4
      have hq5 : (q : Int) ≤ 4611686018427387901 := by
        have : cOh h = 3 + h.keys.length := rfl
        omega
      clear hq4
      have HQ2 : Hid (q + cOh h + cO sub + cO rest = K + cO l) := by unfold Hid; omega
      have HCH : Hid (cOh h = 3 + h.keys.length) := rfl
      have HZ2 : Hid (rest.size ≤ l.size) := by have := HZ.out; simp only [Ous.size] at this; unfold Hid; omega
      have IS : Hid (HeldOus sub) := IH.out sub (by have := HZ.out; simp only [Ous.size] at this; omega)
      obtain ⟨w0, rfl⟩ : ∃ x, x = wr := ⟨_, rfl⟩
      replace d0 : w0.cell? ⟨b, o + n * 5, none⟩ = some (.int .i64 (q : Int)) := d0
      replace d1 : w0.cell? ⟨b, o + n * 5 + 1, none⟩ = some (.int .i64 ((q : Int) + 1)) := d1
      replace d2 : w0.cell? ⟨b, o + n * 5 + 2, none⟩ = some (.string (mkT (q + 2))) := d2
      simp only [mkOh, mkKe_len, mkO_len] at d3 d4
      have R1 : Hid (KeRow 0 w.heap.size w0 a1 (mkKe (q + 3) h.keys)) := r1
      have R3 : Hid (OuRow 0 w.heap.size w0 a2 (mkO (q + cOh h) sub)) := r2
      subst ha
      have hbz := hbw.size
      have hbl' : b < w0.heap.size := by omega
      clear hq9 r1 r2 HF HQ hc
      have D3 : Hid _ := d3
      have D4 : Hid _ := d4
      go_wp2_with fail
      go_region_with (go_at_call 46; refine (mark_text_as (q + 2) _ _ (by omega) (by omega) (by omega)).mono ?_; rintro e w2 ⟨rfl, hb2⟩; have t2 := fun j => hb2.cell (p := ⟨b, j, none⟩) hbl')
      all_goals
        have p2 : Hid (Below w0.heap.size w0 w2) := (Below.refl _ _).drew.trans hb2
        have z2 : w0.heap.size ≤ w2.heap.size := hb2.size
        clear hb2
        go_wp2_with fail
        refine Calls.mono (held_keys a1 c1 h.keys (q + 3) _ _ (by have := HQ4.out; have := HCH.out; omega) (KeRow.wide (KeRow.keep R1.out (agree p2.out hbz)) (Nat.le_refl _) (by omega)) (by omega) (by have := HQ4.out; have := HCH.out; omega)) ?_
        rintro e w3 ⟨r3, rfl, hr3, hb3⟩
        have p3 : Hid (Below w0.heap.size w0 w3) := p2.out.trans (hb3.mono z2)
        have z3 : w0.heap.size ≤ w3.heap.size := Nat.le_trans z2 hb3.size
        have t3 := fun j => p3.out.cell (p := ⟨b, j, none⟩) hbl'
        have hn3 : ¬ r3 < 0 := by omega
        clear hb3 t2
        go_wp2_with fail
        refine Calls.mono (IS.out a2 c2 (q + cOh h) _ _ (by have := HQ4.out; have := HCH.out; omega) (OuRow.wide (OuRow.keep R3.out (agree p3.out hbz)) (Nat.le_refl _) (by omega)) (by omega) (by have := HQ4.out; have := HCH.out; omega)) ?_
        rintro e w5 ⟨r5, rfl, hr5, hb5⟩
        have q5 : Hid (Below w.heap.size w w5) := hbw.trans ((p3.out.trans (hb5.mono z3)).mono hbz)
        have hn5 : ¬ r5 < 0 := by omega
        clear hb5 t3 hr3
        go_wp2_with fail
        first
          | exact ⟨⟨n + 1, q + cOh h + cO sub, rest, HN2, by go_num, val_int (by have := HQ4.out; have := HCH.out; omega), HZ2, HQ2, by omega, HF2, q5.out⟩, by simp [intOf]; omega⟩
          | (go_roundw
             case rel => exact ⟨n + 1, q + cOh h + cO sub, rest, HN2, by go_num, val_int (by have := HQ4.out; have := HCH.out; omega), HZ2, HQ2, by omega, HF2, q5.out⟩
             case measure => simp [intOf]; omega)
set_option maxHeartbeats 1000000 in
theorem held_out (h : Oh) (sub : Ous) (a1 a2 : Option Addr) (c1 c2 K : Nat) (w : World) (h1 : KeRow 0 w.heap.size w a1 (mkKe K h.keys)) (h2 : OuRow 0 w.heap.size w a2 (mkO (K + h.keys.length) sub)) (hk : 0 < K) (hb : ((K + h.keys.length + cO sub : Nat) : Int) ≤ 4611686018427387904) :
    Calls Try.prog 16 #[.agg #[.int .i64 h.k, .int .i64 h.n, .string h.t, .slice a1 h.keys.length c1, .slice a2 sub.len c2], .int .i64 (K : Int)] w fun e w' => ∃ r : Int, e = .returned (.int .i64 r) ∧ r = ((K + h.keys.length + cO sub : Nat) : Int) ∧ Below w.heap.size w w' := by
  obtain ⟨V, hV⟩ : ∃ V, V = w.alloc (.cells #[.int .i64 h.k, .int .i64 h.n, .string h.t, .slice a1 h.keys.length c1, .slice a2 sub.len c2] 30) := ⟨_, rfl⟩
  have B0 : Below w.heap.size w V := by rw [hV]; exact (Below.refl _ _).alloc (Nat.le_refl _) _
  have c0 : V.heap[w.heap.size]? = some (.cells #[.int .i64 h.k, .int .i64 h.n, .string h.t, .slice a1 h.keys.length c1, .slice a2 sub.len c2] 30 (0, 0)) := by rw [hV]; exact heap_alloc_new _ _
  have zV := (Array.getElem?_eq_some_iff.1 c0).1
  have x0 := fun o => row_cell c0 o
  have KV : Hid (∀ W, Below V.heap.size V W → KeRow 0 W.heap.size W a1 (mkKe K h.keys) ∧ OuRow 0 W.heap.size W a2 (mkO (K + h.keys.length) sub) ∧ Below w.heap.size w W ∧ W.heap[w.heap.size]? = some (.cells #[.int .i64 h.k, .int .i64 h.n, .string h.t, .slice a1 h.keys.length c1, .slice a2 sub.len c2] 30 (0, 0))) := fun W hW =>
    have hb := B0.trans (hW.mono B0.size)
    ⟨KeRow.up h1 hb, OuRow.up h2 hb, hb, (hW.block _ zV).trans c0⟩
  clear B0 c0 h1 h2
  go_enter Try.func16, Try.ntmps16
  go_upto_region 1 with fail
  rw [← hV]
  clear hV
  go_wp2_with fail
  refine Calls.mono (held_keys a1 c1 h.keys K _ _ rfl (KV.out _ (Below.refl _ _)).1 hk (by omega)) ?_
  rintro e w1 ⟨r1, rfl, hr1, hb1⟩
  have HB1 : Hid _ := hb1
  have x1 := fun o => row_cell (KV.out _ hb1).2.2.2 o
  have hn1 : ¬ r1 < 0 := by omega
  clear hb1 x0
  go_wp2_with fail
  refine Calls.mono (held_ous sub a2 c2 (K + h.keys.length) _ _ (by omega) (KV.out _ HB1.out).2.1 (by omega) (by omega)) ?_
  rintro e w2 ⟨r2, rfl, hr2, hb2⟩
  have HQ : Hid (Below w.heap.size w w2) := (KV.out _ (HB1.out.trans (hb2.mono HB1.out.size))).2.2.1
  have hn2 : ¬ r2 < 0 := by omega
  clear hb2 x1
  go_wp2_with fail
  go_ret
  exact ⟨_, rfl, by omega, HQ.out⟩
end Go.Proofs.Ytjmkcbjfjejaaaa.G
