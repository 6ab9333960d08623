/- The law's marks in a list of names, and held; lists of names held against each other. -/
import Derived.Test.YtdamienfcfojiaaDocUse
import Derived.Deep.QuietTactic
namespace Go.Proofs.Ytdamienfcfojiaa
open Go.ChangeShapes Go.WideShapes Go.ChangeAt Go.RowKit
set_option linter.unusedVariables false

def fSt (k : Nat) (x : ByteArray) : ByteArray := G.mkT k
def c1 {α : Type} (x : α) : Nat := 1
def mkSt (k : Nat) (l : List ByteArray) : List ByteArray := G.mks fSt c1 k l
theorem cnt1 {α : Type} : ∀ l : List α, G.cnt c1 l = l.length
  | [] => rfl
  | x :: r => by simp only [G.cnt, c1, List.length_cons, cnt1 r]; omega
theorem mkSt_len (k : Nat) (l : List ByteArray) : (mkSt k l).length = l.length := G.mks_length _ _ _ _
theorem mkSt_get (k : Nat) (l : List ByteArray) (i : Nat) (h : i < l.length) : (mkSt k l)[i]? = some (G.mkT (k + i)) := by
  rw [mkSt, G.mks_get _ _ _ _ _ h, cnt1, List.length_take, show min i l.length = i by omega]; rfl
theorem StOwn.step {lo hi : Nat} {w' : World} {b n : Nat} {cs : Array Value} {m l : List ByteArray} {x : ByteArray} (hM : m.length = l.length) (hn : n < l.length) (hx : m[n]? = some x) (hlo : lo ≤ b) (hhi : b < hi) (hcs : l.length * 1 ≤ cs.size)
    (hel : ∀ i x, (G.mix m l n)[i]? = some x → StAt (fun j => cs[j]?) (i * 1) x) (hH : w'.heap[b]? = some (.cells (cs.setIfInBounds n (.string x)) 9 (0, 0))) : StOwn lo hi w' (some ⟨b, 0, none⟩) (G.mix m l (n + 1)) := by
  refine .inr ⟨b, _, rfl, hlo, hhi, hH, by rw [G.mix_len hM (by omega), Array.size_setIfInBounds]; exact hcs, fun i y hy => ?_⟩
  by_cases hin : i = n
  · subst hin
    rw [G.mix_new hM hn, hx] at hy
    simp only [Option.some.injEq] at hy
    subst hy
    simp only [StAt, Nat.mul_one]
    simp [Array.getElem?_setIfInBounds]; omega
  · rw [G.mix_next hM hn i hin] at hy
    have := hel i y hy
    simp only [StAt, Nat.mul_one] at this ⊢
    rw [Array.getElem?_setIfInBounds_ne (by omega)]; exact this

set_option maxHeartbeats 4000000 in
set_option maxRecDepth 40000 in
theorem mark_strs (a : Option Addr) (c : Nat) (l : List ByteArray) (lo hi K : Nat) (kk : Int) (w : World) (hkk : kk = (K : Int)) (ho : StOwn lo hi w a l) (hhi : hi ≤ w.heap.size) (hk : 0 < K) (hb : ((K + l.length : Nat) : Int) ≤ 4611686018427387904) :
    Calls Try.prog 11 #[.slice a l.length c, .int .i64 kk] w fun e w' => ∃ r : Int, e = .returned (.int .i64 r) ∧ r = ((K + l.length : Nat) : Int) ∧ StOwn lo hi w' a (mkSt K l) ∧ KeptR lo hi w w' := by
  have HO : Hid (StOwn lo hi w a (G.mix (mkSt K l) l 0)) := by rw [G.mix_zero]; exact ho
  clear ho
  go_enter Try.func11, Try.ntmps11
  go_wp2_with fail
  go_loopw [1, 5] (fun s i w' => ∃ (n : Nat), n ≤ l.length ∧ i = .int .i64 n ∧ s = .int .i64 ((K + n : Nat) : Int) ∧ Hid (StOwn lo hi w' a (G.mix (mkSt K l) l n)) ∧ Hid (KeptR lo hi w w')) (fun _ i _ => l.length - (intOf i).toNat)
  case atStart => exact ⟨0, by omega, rfl, by rw [hkk]; rfl, HO, KeptR.refl _ _ _⟩
  case round =>
    obtain ⟨n, hn1, rfl, rfl, HW, HK⟩ := hrel
    by_cases hlt : n < l.length
    case neg =>
      have e : n = l.length := by omega
      have HN : Hid (StOwn lo hi wr a (mkSt K l)) := by
        have h2 := HW.out
        rw [e, G.mix_all (mkSt_len _ _)] at h2
        exact h2
      subst e
      clear HW HO
      go_wp2_with fail
      go_ret
      exact ⟨_, rfl, rfl, HN.out, HK.out⟩
    have HX : Hid ((mkSt K l)[n]? = some (G.mkT (K + n))) := mkSt_get _ _ _ hlt
    have hq : ((K + n : Nat) : Int) ≤ 4611686018427387903 := by omega
    have hq0 : 0 < K + n := by omega
    have HQ9 : Hid (K + n + 1 = K + (n + 1)) := by unfold Hid; omega
    rcases HW.out with h0 | ⟨b, cs, rfl, f1, f2, hh, hcs, hel⟩
    · have h9 := congrArg List.length h0
      rw [G.mix_len (mkSt_len _ _) hn1] at h9
      simp only [List.length_nil] at h9
      omega
    rw [G.mix_len (mkSt_len _ _) hn1] at hcs
    have hbl : b < wr.heap.size := (Array.getElem?_eq_some_iff.1 hh).1
    have HL : Hid _ := hel
    obtain ⟨w0, rfl⟩ : ∃ x, x = wr := ⟨_, rfl⟩
    have hl9 : (l.length : Int) ≤ 4611686018427387904 := by omega
    generalize K + n = q at *
    clear hel HW HO hb
    go_wp2_with fail
    refine (G.mark_text_int _ _ (by omega) (by omega)).mono ?_
    rintro e w1 ⟨rfl, hb1⟩
    have H1 : Hid (w1.heap[b]? = some (.cells cs 9 (0, 0))) := (hb1.block _ hbl).trans hh
    have HK1 : Hid (KeptR lo hi w w1) := HK.out.trans (KeptR.of hb1)
    obtain ⟨u0, hv0⟩ : ∃ v, w1.cell? ⟨b, n, none⟩ = some v := ⟨_, (row_cell H1.out _).trans (Array.getElem?_eq_getElem (by omega))⟩
    have hf0 := row_frozen H1.out n
    clear hb1 hh
    go_wp2_with fail
    refine ⟨⟨n + 1, by omega, by go_num, ?_, ?_, ?_⟩, by simp [intOf]; omega⟩
    · exact val_int (by have := HQ9.out; omega)
    · exact StOwn.step (mkSt_len _ _) hlt HX.out f1 f2 hcs HL.out (row_set H1.out _ _)
    · exact HK1.out.set (p := ⟨b, n, none⟩) f1 f2 _

set_option maxHeartbeats 4000000 in
set_option maxRecDepth 40000 in
theorem held_strs (a : Option Addr) (c : Nat) (l : List ByteArray) (K : Nat) (kk : Int) (w : World) (hkk : kk = (K : Int)) (hr : StRow 0 w.heap.size w a (mkSt K l)) (hk : 0 < K) (hb : ((K + l.length : Nat) : Int) ≤ 4611686018427387904) :
    Calls Try.prog 12 #[.slice a l.length c, .int .i64 kk] w fun e w' => ∃ r : Int, e = .returned (.int .i64 r) ∧ r = ((K + l.length : Nat) : Int) ∧ Below w.heap.size w w' := by
  have HR : Hid (StRow 0 w.heap.size w a (mkSt K l)) := hr
  have HB : Hid _ := hb
  have hl9 : (l.length : Int) ≤ 4611686018427387904 := by omega
  clear hr hb
  go_enter Try.func12, Try.ntmps12
  go_wp2_with fail
  go_loopw [1, 5] (fun s i w' => ∃ (n q : Nat), n ≤ l.length ∧ i = .int .i64 n ∧ s = .int .i64 (q : Int) ∧ Hid (q = K + n) ∧ 0 < q ∧ Below w.heap.size w w') (fun _ i _ => l.length - (intOf i).toNat)
  case atStart => exact ⟨0, K, by omega, rfl, by rw [hkk], by simp [Hid], hk, Below.refl _ _⟩
  case round =>
    obtain ⟨n, q, hn1, rfl, rfl, HQ, hq0, hbw⟩ := hrel
    by_cases hlt : n < l.length
    case neg =>
      have HN : Hid ((q : Int) = ((K + l.length : Nat) : Int)) := by
        have h1 := HQ.out
        unfold Hid; omega
      go_wp2_with fail
      go_ret
      exact ⟨_, rfl, HN.out, hbw⟩
    have hq3 : (q : Int) ≤ 4611686018427387900 + 3 := by have h1 := HQ.out; have h2 := HB.out; omega
    have hlm : n < (mkSt K l).length := by rw [mkSt_len]; exact hlt
    have HX : (mkSt K l)[n] = G.mkT q := by
      have := mkSt_get K l n hlt
      rw [List.getElem?_eq_getElem hlm] at this
      rw [HQ.out]; simpa using this
    have hlt' : (n : Int) < l.length := by omega
    obtain ⟨b, o, ha, _, hbl, d0⟩ := StRow.cell (HR.out.keep (Below.agree hbw (Nat.le_refl _))) n hlm
    rw [HX] at d0
    obtain ⟨w0, rfl⟩ : ∃ x, x = wr := ⟨_, rfl⟩
    subst ha
    have hbz := hbw.size
    clear HX
    go_wp2_with fail
    go_region_with (go_at_call 26; refine (G.mark_text_int _ _ (by omega) (by omega)).mono ?_; rintro e w1 ⟨rfl, hb1⟩; have t1 := fun j => hb1.cell (p := ⟨b, j, none⟩) (show b < w0.heap.size by omega))
    all_goals
      have q1 : Hid (Below w.heap.size w w1) := hbw.drew.trans (hb1.mono hbz)
      clear hb1
      go_wp2_with fail
      go_roundw
      case rel => exact ⟨n + 1, q + 1, by omega, by go_num, by first | go_num | exact val_int (by omega), by have := HQ.out; unfold Hid; omega, by omega, q1.out⟩
      case measure => simp [intOf]; omega

set_option maxHeartbeats 4000000 in
set_option maxRecDepth 40000 in
theorem eq_strs (a a' : Option Addr) (c c' : Nat) (l : List ByteArray) (w : World) (hr : StRow 0 w.heap.size w a l) (hr' : StRow 0 w.heap.size w a' l) (hl : l.length ≤ 4194304) :
    Calls Try.prog 8 #[.slice a l.length c, .slice a' l.length c'] w fun e w' => e = .returned (.bool true) ∧ Below w.heap.size w w' := by
  have HR : Hid (StRow 0 w.heap.size w a l) := hr
  have HR' : Hid (StRow 0 w.heap.size w a' l) := hr'
  clear hr hr'
  go_enter Try.func8, Try.ntmps8
  go_wp2_with fail
  go_loopw [5] (fun i w' => ∃ (k : Nat), k ≤ l.length ∧ i = .int .i64 k ∧ Below w.heap.size w w') (fun i _ => l.length - (intOf i).toNat)
  case atStart => exact ⟨0, by omega, rfl, Below.refl _ _⟩
  case round =>
    obtain ⟨k, hk, rfl, hb⟩ := hrel
    by_cases hlt : k < l.length
    case neg =>
      go_wp2_with fail
      go_ret
      exact ⟨rfl, hb⟩
    obtain ⟨b, o, ha, _, hbl, d0⟩ := StRow.cell (HR.out.keep (Below.agree hb (Nat.le_refl _))) k hlt
    obtain ⟨b', o', ha', _, hbl', d0'⟩ := StRow.cell (HR'.out.keep (Below.agree hb (Nat.le_refl _))) k hlt
    subst ha
    subst ha'
    have hlt' : (k : Int) < l.length := by omega
    go_wp2_with fail
    go_quiet (fail)
    go_wp2_with fail
    go_roundw
    case rel => exact ⟨k + 1, by omega, by go_num, hb.trans (by exact ⟨rfl, rfl, rfl, Nat.le_refl _, fun _ _ => rfl⟩)⟩
    case measure => simp [intOf]; omega
end Go.Proofs.Ytdamienfcfojiaa
