/- The law's marks written into arguments, directives and selections that the call owns. -/
import Derived.Test.YtgnonbghgcpnoaaDoorDocOwn
namespace Go.Proofs.YtgnonbghgcpnoaaDoor
open Go.ChangeShapes Go.WideShapes Go.ChangeAt Go.RowKit
set_option linter.unusedVariables false

theorem m3_of {z : Int} {k : Nat} (h : z = k) : (z % 3 == 0) = G.m3 k := by
  subst h; unfold G.m3
  rw [Bool.eq_iff_iff]
  simp only [beq_iff_eq, decide_eq_true_eq]
  omega
theorem val_m3 {z : Int} {k : Nat} (h : z = k) : Value.bool (z % 3 == 0) = .bool (G.m3 k) := by rw [m3_of h]
theorem val_mk {z : Int} {k : Nat} (h : z = k) : Value.string (G.mkT z.toNat) = .string (G.mkT k) := by subst h; simp
theorem val_mkn {a b : Nat} (h : a = b) : Value.string (G.mkT a) = .string (G.mkT b) := by rw [h]
theorem val_int {z : Int} {k : Nat} (h : z = k) : Value.int .i64 z = .int .i64 (k : Int) := by rw [h]
theorem ArAt.loc {rd rd' : Nat → Option Value} {o : Nat} {x : Ar} (hc : ∀ j, o ≤ j → j < o + 4 → rd' j = rd j) (h : ArAt rd o x) : ArAt rd' o x := by
  obtain ⟨c0, c1, c2, c3⟩ := h
  exact ⟨(hc _ (by omega) (by omega)).trans c0, (hc _ (by omega) (by omega)).trans c1, (hc _ (by omega) (by omega)).trans c2, (hc _ (by omega) (by omega)).trans c3⟩
theorem DiAt.loc {rd rd' : Nat → Option Value} {o : Nat} {x : Di} (hc : ∀ j, o ≤ j → j < o + 4 → rd' j = rd j) (h : DiAt rd o x) : DiAt rd' o x := by
  obtain ⟨c0, c1, c2, c3⟩ := h
  exact ⟨(hc _ (by omega) (by omega)).trans c0, (hc _ (by omega) (by omega)).trans c1, (hc _ (by omega) (by omega)).trans c2, (hc _ (by omega) (by omega)).trans c3⟩
theorem OwnR.step4 {α : Type} {at_ : (Nat → Option Value) → Nat → α → Prop} {ty : TypeId} {lo hi : Nat} {w' : World} {b n : Nat} {cs : Array Value} {m l : List α} {x : α} {v0 v1 v2 v3 : Value}
    (loc : ∀ (rd rd' : Nat → Option Value) (o : Nat) (y : α), (∀ j, o ≤ j → j < o + 4 → rd' j = rd j) → at_ rd o y → at_ rd' o y) (hM : m.length = l.length) (hn : n < l.length) (hx : m[n]? = some x) (hlo : lo ≤ b) (hhi : b < hi) (hcs : l.length * 4 ≤ cs.size)
    (hel : ∀ i x, (G.mix m l n)[i]? = some x → at_ (fun j => cs[j]?) (i * 4) x) (hH : w'.heap[b]? = some (.cells (put4 cs (n * 4) v0 v1 v2 v3) ty (0, 0))) (hnew : at_ (fun j => (put4 cs (n * 4) v0 v1 v2 v3)[j]?) (n * 4) x) :
    OwnR at_ 4 ty lo hi w' (some ⟨b, 0, none⟩) (G.mix m l (n + 1)) := by
  refine .inr ⟨b, _, rfl, hlo, hhi, hH, by rw [G.mix_len hM (by omega), put4_size]; exact hcs, fun i y hy => ?_⟩
  by_cases hin : i = n
  · subst hin
    rw [G.mix_new hM hn, hx] at hy
    simp only [Option.some.injEq] at hy
    subst hy
    exact hnew
  · rw [G.mix_next hM hn i hin] at hy
    refine loc _ _ _ _ (fun j h1 h2 => put4_ne (by omega)) (hel i y hy)
theorem ArAt.new {cs : Array Value} {n q : Nat} {x : Ar} {v0 v1 v2 v3 : Value} (h : n * 4 + 3 < cs.size) (e0 : v0 = .string (G.mkT q)) (e1 : v1 = .int .i64 ((q + 1 : Nat) : Int)) (e2 : v2 = .int .i64 ((q + 2 : Nat) : Int)) (e3 : v3 = .string (G.mkT (q + 3))) :
    ArAt (fun j => (put4 cs (n * 4) v0 v1 v2 v3)[j]?) (n * 4) (fAr q x) := by
  subst e0 e1 e2 e3; exact put4_at h
theorem DiAt.new {cs : Array Value} {n q : Nat} {x : Di} {v0 v1 v2 v3 : Value} (h : n * 4 + 3 < cs.size) (e0 : v0 = .bool (G.m3 q)) (e1 : v1 = .int .i64 ((q + 1 : Nat) : Int)) (e2 : v2 = .int .i64 ((q + 2 : Nat) : Int)) (e3 : v3 = .string (G.mkT (q + 3))) :
    DiAt (fun j => (put4 cs (n * 4) v0 v1 v2 v3)[j]?) (n * 4) (fDi q x) := by
  subst e0 e1 e2 e3; exact put4_at h

set_option maxHeartbeats 4000000 in
set_option maxRecDepth 40000 in
theorem mark_args (a : Option Addr) (c : Nat) (l : List Ar) (lo hi K : Nat) (kk : Int) (w : World) (hkk : kk = (K : Int)) (ho : ArOwn lo hi w a l) (hhi : hi ≤ w.heap.size) (hk : 0 < K) (hb : ((K + 4 * l.length : Nat) : Int) ≤ 4611686018427387904) :
    Calls Tryd.prog 50 #[.slice a l.length c, .int .i64 kk] w fun e w' => ∃ r : Int, e = .returned (.int .i64 r) ∧ r = ((K + 4 * l.length : Nat) : Int) ∧ ArOwn lo hi w' a (mkAr K l) ∧ KeptR lo hi w w' := by
  have HO : Hid (ArOwn lo hi w a (G.mix (mkAr K l) l 0)) := by rw [G.mix_zero]; exact ho
  clear ho
  go_enter Tryd.func50, Tryd.ntmps50
  go_wp2_with fail
  go_loopw [1, 5] (fun s i w' => ∃ (n : Nat), n ≤ l.length ∧ i = .int .i64 n ∧ s = .int .i64 ((K + 4 * n : Nat) : Int) ∧ Hid (ArOwn lo hi w' a (G.mix (mkAr K l) l n)) ∧ Hid (KeptR lo hi w w')) (fun _ i _ => l.length - (intOf i).toNat)
  case atStart => exact ⟨0, by omega, rfl, by rw [hkk]; rfl, HO, KeptR.refl _ _ _⟩
  case round =>
    obtain ⟨n, hn1, rfl, rfl, HW, HK⟩ := hrel
    by_cases hlt : n < l.length
    case neg =>
      have e : n = l.length := by omega
      have HN : Hid (ArOwn lo hi wr a (mkAr K l)) := by
        have h2 := HW.out
        rw [e, G.mix_all (mkAr_len _ _)] at h2
        exact h2
      subst e
      clear HW HO
      go_wp2_with fail
      go_ret
      exact ⟨_, rfl, rfl, HN.out, HK.out⟩
    have HX : Hid ((mkAr K l)[n]? = some (fAr (K + 4 * n) l[n])) := mkAr_get _ _ _ hlt
    have hq : ((K + 4 * n : Nat) : Int) + 4 ≤ 4611686018427387904 := by omega
    have hq0 : 0 < K + 4 * n := by omega
    have hq9 : K + 4 * n + 4 = K + 4 * (n + 1) := by omega
    have HQ9 : Hid _ := hq9
    clear hq9
    rcases HW.out with h0 | ⟨b, cs, rfl, f1, f2, hh, hcs, hel⟩
    · have h9 := congrArg List.length h0
      rw [G.mix_len (mkAr_len _ _) hn1] at h9
      simp only [List.length_nil] at h9
      omega
    rw [G.mix_len (mkAr_len _ _) hn1] at hcs
    have hbl : b < wr.heap.size := (Array.getElem?_eq_some_iff.1 hh).1
    have HL : Hid _ := hel
    obtain ⟨w0, rfl⟩ : ∃ x, x = wr := ⟨_, rfl⟩
    generalize K + 4 * n = q at *
    have hl9 : (l.length : Int) ≤ 4611686018427387904 := by omega
    clear hel HW HO hb
    go_wp2_with fail
    refine (G.mark_text_int _ _ (by omega) (by omega)).mono ?_
    rintro e w1 ⟨rfl, hb1⟩
    have H1 : Hid (w1.heap[b]? = some (.cells cs 112 (0, 0))) := (hb1.block _ hbl).trans hh
    have HK1 : Hid (KeptR lo hi w w1) := HK.out.trans (KeptR.of hb1)
    obtain ⟨u0, hv0⟩ : ∃ v, w1.cell? ⟨b, n * 4, none⟩ = some v := ⟨_, (row_cell H1.out _).trans (Array.getElem?_eq_getElem (by omega))⟩
    obtain ⟨u1, hv1⟩ : ∃ v, w1.cell? ⟨b, n * 4 + 1, none⟩ = some v := ⟨_, (row_cell H1.out _).trans (Array.getElem?_eq_getElem (by omega))⟩
    obtain ⟨u2, hv2⟩ : ∃ v, w1.cell? ⟨b, n * 4 + 2, none⟩ = some v := ⟨_, (row_cell H1.out _).trans (Array.getElem?_eq_getElem (by omega))⟩
    have hf0 := row_frozen H1.out (n * 4)
    have hf1 := row_frozen H1.out (n * 4 + 1)
    have hf2 := row_frozen H1.out (n * 4 + 2)
    have hz1 := hb1.size
    clear hb1 hh
    go_wp2_with fail
    refine (G.mark_text_int _ _ (by omega) (by omega)).mono ?_
    rintro e w2 ⟨rfl, hb2⟩
    have H2 : Hid (w2.heap[b]? = _) := (hb2.block _ (by simp; omega)).trans (row_set (row_set (row_set H1.out (n * 4) _) (n * 4 + 1) _) (n * 4 + 2) _)
    have HK2 : Hid (KeptR lo hi w w2) := (((HK1.out.set (p := ⟨b, n * 4, none⟩) f1 f2 _).set (p := ⟨b, n * 4 + 1, none⟩) f1 f2 _).set (p := ⟨b, n * 4 + 2, none⟩) f1 f2 _).trans (KeptR.of hb2)
    obtain ⟨u3, hv3⟩ : ∃ v, w2.cell? ⟨b, n * 4 + 3, none⟩ = some v := ⟨_, (row_cell H2.out _).trans (Array.getElem?_eq_getElem (by simp; omega))⟩
    have hf3 := row_frozen H2.out (n * 4 + 3)
    clear hb2
    go_wp2_with fail
    refine ⟨⟨n + 1, by omega, by go_num, ?_, ?_, ?_⟩, by simp [intOf]; omega⟩
    · exact val_int (by have := HQ9.out; omega)
    · refine OwnR.step4 (fun _ _ _ _ => ArAt.loc) (mkAr_len _ _) hlt HX.out f1 f2 hcs HL.out (row_set H2.out _ _) (ArAt.new (by omega) ?_ ?_ ?_ ?_)
      · first | exact val_mkn (by omega) | exact val_mk (by omega)
      · exact val_int (by omega)
      · exact val_int (by omega)
      · first | exact val_mkn (by omega) | exact val_mk (by omega)
    · exact HK2.out.set (p := ⟨b, n * 4 + 3, none⟩) f1 f2 _

set_option maxHeartbeats 4000000 in
set_option maxRecDepth 40000 in
theorem mark_dirs (a : Option Addr) (c : Nat) (l : List Di) (lo hi K : Nat) (kk : Int) (w : World) (hkk : kk = (K : Int)) (ho : DiOwn lo hi w a l) (hhi : hi ≤ w.heap.size) (hk : 0 < K) (hb : ((K + 4 * l.length : Nat) : Int) ≤ 4611686018427387904) :
    Calls Tryd.prog 51 #[.slice a l.length c, .int .i64 kk] w fun e w' => ∃ r : Int, e = .returned (.int .i64 r) ∧ r = ((K + 4 * l.length : Nat) : Int) ∧ DiOwn lo hi w' a (mkDi K l) ∧ KeptR lo hi w w' := by
  have HO : Hid (DiOwn lo hi w a (G.mix (mkDi K l) l 0)) := by rw [G.mix_zero]; exact ho
  clear ho
  go_enter Tryd.func51, Tryd.ntmps51
  go_wp2_with fail
  go_loopw [1, 5] (fun s i w' => ∃ (n : Nat), n ≤ l.length ∧ i = .int .i64 n ∧ s = .int .i64 ((K + 4 * n : Nat) : Int) ∧ Hid (DiOwn lo hi w' a (G.mix (mkDi K l) l n)) ∧ Hid (KeptR lo hi w w')) (fun _ i _ => l.length - (intOf i).toNat)
  case atStart => exact ⟨0, by omega, rfl, by rw [hkk]; rfl, HO, KeptR.refl _ _ _⟩
  case round =>
    obtain ⟨n, hn1, rfl, rfl, HW, HK⟩ := hrel
    by_cases hlt : n < l.length
    case neg =>
      have e : n = l.length := by omega
      have HN : Hid (DiOwn lo hi wr a (mkDi K l)) := by
        have h2 := HW.out
        rw [e, G.mix_all (mkDi_len _ _)] at h2
        exact h2
      subst e
      clear HW HO
      go_wp2_with fail
      go_ret
      exact ⟨_, rfl, rfl, HN.out, HK.out⟩
    have HX : Hid ((mkDi K l)[n]? = some (fDi (K + 4 * n) l[n])) := mkDi_get _ _ _ hlt
    have hq : ((K + 4 * n : Nat) : Int) + 4 ≤ 4611686018427387904 := by omega
    have hq0 : 0 < K + 4 * n := by omega
    have hq9 : K + 4 * n + 4 = K + 4 * (n + 1) := by omega
    have HQ9 : Hid _ := hq9
    clear hq9
    rcases HW.out with h0 | ⟨b, cs, rfl, f1, f2, hh, hcs, hel⟩
    · have h9 := congrArg List.length h0
      rw [G.mix_len (mkDi_len _ _) hn1] at h9
      simp only [List.length_nil] at h9
      omega
    rw [G.mix_len (mkDi_len _ _) hn1] at hcs
    have hbl : b < wr.heap.size := (Array.getElem?_eq_some_iff.1 hh).1
    have HL : Hid _ := hel
    have H1 : Hid _ := hh
    obtain ⟨w1, rfl⟩ : ∃ x, x = wr := ⟨_, rfl⟩
    generalize K + 4 * n = q at *
    obtain ⟨u0, hv0⟩ : ∃ v, w1.cell? ⟨b, n * 4, none⟩ = some v := ⟨_, (row_cell H1.out _).trans (Array.getElem?_eq_getElem (by omega))⟩
    obtain ⟨u1, hv1⟩ : ∃ v, w1.cell? ⟨b, n * 4 + 1, none⟩ = some v := ⟨_, (row_cell H1.out _).trans (Array.getElem?_eq_getElem (by omega))⟩
    obtain ⟨u2, hv2⟩ : ∃ v, w1.cell? ⟨b, n * 4 + 2, none⟩ = some v := ⟨_, (row_cell H1.out _).trans (Array.getElem?_eq_getElem (by omega))⟩
    have hf0 := row_frozen H1.out (n * 4)
    have hf1 := row_frozen H1.out (n * 4 + 1)
    have hf2 := row_frozen H1.out (n * 4 + 2)
    have hl9 : (l.length : Int) ≤ 4611686018427387904 := by omega
    clear hel HW HO hb hh
    go_wp2_with fail
    refine (G.mark_text_int _ _ (by omega) (by omega)).mono ?_
    rintro e w2 ⟨rfl, hb2⟩
    have H2 : Hid (w2.heap[b]? = _) := (hb2.block _ (by simp; omega)).trans (row_set (row_set (row_set H1.out (n * 4) _) (n * 4 + 1) _) (n * 4 + 2) _)
    have HK2 : Hid (KeptR lo hi w w2) := (((HK.out.set (p := ⟨b, n * 4, none⟩) f1 f2 _).set (p := ⟨b, n * 4 + 1, none⟩) f1 f2 _).set (p := ⟨b, n * 4 + 2, none⟩) f1 f2 _).trans (KeptR.of hb2)
    obtain ⟨u3, hv3⟩ : ∃ v, w2.cell? ⟨b, n * 4 + 3, none⟩ = some v := ⟨_, (row_cell H2.out _).trans (Array.getElem?_eq_getElem (by simp; omega))⟩
    have hf3 := row_frozen H2.out (n * 4 + 3)
    clear hb2
    go_wp2_with fail
    refine ⟨⟨n + 1, by omega, by go_num, ?_, ?_, ?_⟩, by simp [intOf]; omega⟩
    · exact val_int (by have := HQ9.out; omega)
    · refine OwnR.step4 (fun _ _ _ _ => DiAt.loc) (mkDi_len _ _) hlt HX.out f1 f2 hcs HL.out (row_set H2.out _ _) (DiAt.new (by omega) ?_ ?_ ?_ ?_)
      · exact val_m3 (by omega)
      · exact val_int (by omega)
      · exact val_int (by omega)
      · first | exact val_mkn (by omega) | exact val_mk (by omega)
    · exact HK2.out.set (p := ⟨b, n * 4 + 3, none⟩) f1 f2 _
end Go.Proofs.YtgnonbghgcpnoaaDoor
