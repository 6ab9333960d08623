/- The law's marks written into answers' values that the call owns. -/
import Derived.Test.YtjmkcbjfjejaaaaOuOwn
namespace Go.Proofs.Ytjmkcbjfjejaaaa.G
open Go.ChangeShapes Go.WideShapes Go.ChangeAt Go.RowKit
set_option linter.unusedVariables false

set_option maxHeartbeats 4000000 in
set_option maxRecDepth 40000 in
theorem mark_keys (a : Option Addr) (c : Nat) (l : List ByteArray) (lo hi K : Nat) (kk : Int) (w : World) (hkk : kk = (K : Int)) (ho : KeOwn lo hi w a l) (hhi : hi ≤ w.heap.size) (hk : 0 < K) (hb : ((K + l.length : Nat) : Int) ≤ 4611686018427387904) :
    Calls Try.prog 30 #[.slice a l.length c, .int .i64 kk] w fun e w' => ∃ r : Int, e = .returned (.int .i64 r) ∧ r = ((K + l.length : Nat) : Int) ∧ KeOwn lo hi w' a (mkKe K l) ∧ KeptR lo hi w w' := by
  have HO : Hid (KeOwn lo hi w a (mix (mkKe K l) l 0)) := by rw [mix_zero]; exact ho
  clear ho
  go_enter Try.func30, Try.ntmps30
  go_wp2_with fail
  go_loopw [1, 5] (fun s i w' => ∃ (n q : Nat), n ≤ l.length ∧ i = .int .i64 n ∧ s = .int .i64 (q : Int) ∧ Hid (q = K + n) ∧ 0 < q ∧ Hid (KeOwn lo hi w' a (mix (mkKe K l) l n)) ∧ Hid (KeptR lo hi w w')) (fun _ i _ => l.length - (intOf i).toNat)
  case atStart => exact ⟨0, K, by omega, rfl, by rw [hkk], rfl, hk, HO, KeptR.refl _ _ _⟩
  case round =>
    obtain ⟨n, q, hn1, rfl, rfl, HQ, hq0, HW, HK⟩ := hrel
    have hq1 : (q : Int) ≤ 4611686018427387904 := by have := HQ.out; omega
    by_cases hlt : n < l.length
    case neg =>
      have e : n = l.length := by omega
      have HN : Hid (KeOwn lo hi wr a (mkKe K l)) := by
        have h2 := HW.out
        rw [e, mix_all (mkKe_len _ _)] at h2
        exact h2
      have HE : Hid ((q : Int) = ((K + l.length : Nat) : Int)) := by have := HQ.out; unfold Hid; omega
      clear HW HO e
      go_wp2_with fail
      go_ret
      exact ⟨_, rfl, HE.out, HN.out, HK.out⟩
    have HX : Hid ((mkKe K l)[n]? = some (mkT q)) := by rw [HQ.out]; exact mkKe_get _ _ _ hlt
    have HQ9 : Hid (q + 1 = K + (n + 1)) := by have := HQ.out; unfold Hid; omega
    rcases HW.out with h0 | ⟨b, cs, rfl, f1, f2, hh, hcs, hel⟩
    · have h9 := congrArg List.length h0
      rw [mix_len (mkKe_len _ _) hn1] at h9
      simp only [List.length_nil] at h9
      omega
    rw [mix_len (mkKe_len _ _) hn1, Nat.mul_one] at hcs
    have hbl : b < wr.heap.size := (Array.getElem?_eq_some_iff.1 hh).1
    have HL : Hid _ := hel
    obtain ⟨w0, rfl⟩ : ∃ x, x = wr := ⟨_, rfl⟩
    have hl9 : (l.length : Int) ≤ 4611686018427387904 := by omega
    have hq2 : (q : Int) < 4611686018427387904 := by have := HQ.out; omega
    clear hel HW HO hb HQ
    go_wp2_with fail
    refine (mark_text_int _ _ (by omega) (by omega)).mono ?_
    rintro e w1 ⟨rfl, hb1⟩
    have H1 : Hid (w1.heap[b]? = some (.cells cs 9 (0, 0))) := (hb1.block _ hbl).trans hh
    have HK1 : Hid (KeptR lo hi w w1) := HK.out.trans (KeptR.of hb1)
    obtain ⟨u0, hv0⟩ : ∃ v, w1.cell? ⟨b, n, none⟩ = some v := ⟨_, (row_cell H1.out _).trans (Array.getElem?_eq_getElem (by omega))⟩
    have hf0 := row_frozen H1.out n
    clear hb1 hh
    go_wp2_with fail
    refine ⟨⟨n + 1, q + 1, by omega, by go_num, val_int (by omega), HQ9, by omega, ?_, ?_⟩, by simp [intOf]; omega⟩
    · unfold Hid
      refine .inr ⟨b, _, rfl, f1, f2, row_set H1.out _ _, by rw [mix_len (mkKe_len _ _) (by omega)]; simp; exact hcs, fun i y hy => ?_⟩
      by_cases hin : i = n
      · subst hin
        rw [mix_new (mkKe_len _ _) hlt, HX.out] at hy
        simp only [Option.some.injEq] at hy
        subst hy
        show (cs.setIfInBounds _ _)[i * 1]? = _
        rw [Nat.mul_one]
        have : i < cs.size := by omega
        simp [this]
      · rw [mix_next (mkKe_len _ _) hlt i hin] at hy
        show (cs.setIfInBounds _ _)[i * 1]? = _
        rw [Array.getElem?_setIfInBounds_ne (by omega)]
        exact HL.out i y hy
    · exact HK1.out.set (p := ⟨b, n, none⟩) f1 f2 _

def put3 (cs : Array Value) (k : Nat) (v0 v1 v2 : Value) : Array Value := ((cs.setIfInBounds k v0).setIfInBounds (k + 1) v1).setIfInBounds (k + 2) v2
theorem put3_at {cs : Array Value} {k : Nat} {v0 v1 v2 : Value} (h : k + 2 < cs.size) : (put3 cs k v0 v1 v2)[k]? = some v0 ∧ (put3 cs k v0 v1 v2)[k + 1]? = some v1 ∧ (put3 cs k v0 v1 v2)[k + 2]? = some v2 := by
  unfold put3
  refine ⟨?_, ?_, ?_⟩ <;> simp [Array.getElem?_setIfInBounds] <;> omega
theorem put3_ne {cs : Array Value} {k : Nat} {v0 v1 v2 : Value} {j : Nat} (h : j < k ∨ k + 3 ≤ j) : (put3 cs k v0 v1 v2)[j]? = cs[j]? := by
  unfold put3
  rw [Array.getElem?_setIfInBounds_ne (by omega), Array.getElem?_setIfInBounds_ne (by omega), Array.getElem?_setIfInBounds_ne (by omega)]
theorem OuSeq.mark_step {w0 w5 : World} {b m m1 m3 hi n q K : Nat} {cs : Array Value} {pre : List (Oh × Ous)} {h : Oh} {sub rest : Ous} {a3 a5 : Option Addr} {d3 d5 : Nat} {v0 v1 v2 : Value}
    (hlen : pre.length = n) (hcs : n * 5 + 5 ≤ cs.size) (HP : OuSeq w0 (appO (mkPo K pre) .nil) cs 0 (b + 1) m) (HR : OuSeq w0 rest cs (n * 5 + 5) m3 hi) (e1 : m ≤ m1) (e2 : m1 ≤ m3)
    (p3 : cs[n * 5 + 3]? = some (.slice a3 h.keys.length d3)) (pc : h.keys.length ≤ d3) (p5 : cs[n * 5 + 4]? = some (.slice a5 sub.len d5))
    (o3 : KeOwn m m1 w5 a3 (mkKe (q + 3) h.keys)) (o5 : OuOwn m1 m3 w5 a5 (mkO (q + cOh h) sub))
    (S : ∀ g, b < g → g < hi → (g < m ∨ m3 ≤ g) → w5.heap[g]? = w0.heap[g]?) (ev0 : v0 = .int .i64 (q : Int)) (ev1 : v1 = .int .i64 ((q + 1 : Nat) : Int)) (ev2 : v2 = .string (mkT (q + 2))) (hq : q = K + cPo pre) :
    OuSeq w5 (appO (mkPo K (pre ++ [(h, sub)])) .nil) (put3 cs (n * 5) v0 v1 v2) 0 (b + 1) m3 ∧ OuSeq w5 rest (put3 cs (n * 5) v0 v1 v2) ((n + 1) * 5) m3 hi := by
  have hm := HP.le
  have hr := HR.le
  subst hlen
  obtain ⟨g0, g1, g2⟩ := put3_at (cs := cs) (k := pre.length * 5) (v0 := v0) (v1 := v1) (v2 := v2) (by omega)
  have gx : ∀ j, j < pre.length * 5 ∨ pre.length * 5 + 3 ≤ j → (put3 cs (pre.length * 5) v0 v1 v2)[j]? = cs[j]? := fun j hj => put3_ne hj
  generalize put3 cs (pre.length * 5) v0 v1 v2 = cs' at *
  constructor
  · rw [mkPo_snoc, ← hq]
    refine OuSeq.snoc _ (OuSeq.cells (cs := cs) (OuSeq.keep HP fun g h1 h2 => S g (by omega) (by omega) (.inl h2)) fun j _ hj => gx j ?_) ?_
    · rw [appO_len, mkPo_len] at hj
      simp only [Ous.len] at hj
      omega
    · rw [mkPo_len, show 0 + 5 * pre.length = pre.length * 5 by omega]
      refine ⟨m1, e1, e2, g0.trans (by rw [ev0]; rfl), g1.trans (by rw [ev1]; rfl), g2.trans (by rw [ev2]; rfl), ⟨a3, d3, ?_, ?_, o3⟩, ⟨a5, d5, ?_, o5⟩⟩
      · rw [gx _ (by omega), p3]; simp only [mkOh, mkKe_len]
      · simp only [mkOh, mkKe_len]; exact pc
      · rw [gx _ (by omega), p5, mkO_len]
  · rw [show (pre.length + 1) * 5 = pre.length * 5 + 5 by omega]
    exact OuSeq.cells (cs := cs) (OuSeq.keep HR fun g h1 h2 => S g (by omega) h2 (.inr h1)) fun j h1 _ => gx j (by omega)

def MarkOus (l : Ous) : Prop := ∀ (a : Option Addr) (c lo hi K : Nat) (kk : Int) (w : World), kk = (K : Int) → OuOwn lo hi w a l → hi ≤ w.heap.size → 0 < K → ((K + cO l : Nat) : Int) ≤ 4611686018427387904 →
    Calls Try.prog 31 #[.slice a l.len c, .int .i64 kk] w fun e w' => ∃ r : Int, e = .returned (.int .i64 r) ∧ r = ((K + cO l : Nat) : Int) ∧ OuOwn lo hi w' a (mkO K l) ∧ KeptR lo hi w w'

set_option maxHeartbeats 4000000 in
set_option maxRecDepth 40000 in
theorem mark_ous (l : Ous) : MarkOus l := by
  induction hN : l.size using Nat.strongRecOn generalizing l with
  | _ N ih =>
  subst hN
  intro a c lo hi K kk w hkk ho hhi hk hb
  have IH : Hid (∀ sub : Ous, sub.size < l.size → MarkOus sub) := fun sub hsub => ih sub.size hsub sub rfl
  clear ih
  subst hkk
  rcases ho with rfl | ⟨b, ds, rfl, f1, f2, f3, f4, f5⟩
  · simp only [Ous.len]
    go_enter Try.func31, Try.ntmps31
    go_wp2_with fail
    go_loopw [1, 5] (fun s i w' => s = .int .i64 (K : Int) ∧ i = .int .i64 0 ∧ w' = w) (fun _ _ _ => 0)
    case atStart => exact ⟨rfl, rfl, rfl⟩
    case round =>
      obtain ⟨rfl, rfl, rfl⟩ := hrel
      go_wp2_with fail
      go_ret
      exact ⟨_, rfl, by simp [cO], .inl rfl, KeptR.refl _ _ _⟩
  have hl9 : (l.len : Int) ≤ 4611686018427387904 := by have := len_cO l; omega
  have HB : Hid _ := hb
  have F3 : Hid _ := f3
  have F4 : Hid _ := f4
  have F5 : Hid _ := f5
  clear f3 f4 f5 hb
  go_enter Try.func31, Try.ntmps31
  go_wp2_with fail
  go_loopw [1, 5] (fun s i w' => ∃ (n q m : Nat) (cs : Array Value) (pre : List (Oh × Ous)) (rest : Ous), Hid (l.len = n + rest.len) ∧ i = .int .i64 n ∧ s = .int .i64 (q : Int) ∧ Hid (l = appO pre rest ∧ pre.length = n) ∧ Hid (rest.size ≤ l.size) ∧ Hid (q = K + cPo pre) ∧ 0 < q ∧ Hid (w'.heap[b]? = some (.cells cs 30 (0, 0))) ∧ Hid (l.len * 5 ≤ cs.size) ∧ Hid (OuSeq w' (appO (mkPo K pre) .nil) cs 0 (b + 1) m) ∧ Hid (OuSeq w' rest cs (n * 5) m hi) ∧ Hid (KeptR lo hi w w')) (fun _ i _ => l.len - (intOf i).toNat)
  case atStart => exact ⟨0, K, b + 1, ds, [], l, by simp [Hid], rfl, rfl, ⟨rfl, rfl⟩, Nat.le_refl _, by simp [Hid, cPo], hk, F3, F4, Nat.le_refl _, by rw [Nat.zero_mul]; exact F5, KeptR.refl _ _ _⟩
  case round =>
    obtain ⟨n, q, m, cs, pre, rest, HN, rfl, rfl, HP, HZ, HQ, hq0, H0, HC, HS, HR, HK⟩ := hrel
    cases rest with
    | nil =>
      have hk' : ¬ n < l.len := by rw [HN.out]; simp only [Ous.len]; omega
      have HE : Hid ((q : Int) = ((K + cO l : Nat) : Int) ∧ OuOwn lo hi wr (some ⟨b, 0, none⟩) (mkO K l)) := by
        obtain ⟨hp1, hp2⟩ := HP.out
        have hq := HQ.out
        refine ⟨by rw [hp1, cO_app]; simp only [cO]; omega, .inr ⟨b, cs, rfl, f1, f2, H0.out, by rw [mkO_len]; exact HC.out, ?_⟩⟩
        rw [hp1, mkO_app]
        exact OuSeq.widen HS.out HR.out
      clear HS HR HP HQ
      go_wp2_with fail
      go_ret
      exact ⟨_, rfl, HE.out.1, HE.out.2, HK.out⟩
    | cons h sub rest =>
      have hlt : n < l.len := by rw [HN.out]; simp only [Ous.len]; omega
      have HN2 : Hid (l.len = n + 1 + rest.len) := by rw [Hid, HN.out]; simp only [Ous.len]; omega
      obtain ⟨m3, ⟨m1, e1, e2, c0, c1, c2, ⟨a3, d3, p3, pc, q3⟩, ⟨a5, d5, p5, q5⟩⟩, hrest⟩ := OuSeq.uncons HR.out
      have hbm := OuSeq.le HS.out
      have hm3 := OuSeq.le hrest
      have hz0 : hi ≤ wr.heap.size := by have := HK.out.size; omega
      have hcs := HC.out
      have hcs2 : n * 5 + 5 ≤ cs.size := by omega
      have hq4 : (q : Int) + ((cOh h + cO sub : Nat) : Int) ≤ 4611686018427387904 := by
        have h1 := HB.out
        rw [HP.out.1, cO_app] at h1
        simp only [cO] at h1
        have h2 := HQ.out
        omega
      have hch : cOh h = 3 + h.keys.length := rfl
      have HZ2 : Hid (rest.size ≤ l.size) := by have := HZ.out; simp only [Ous.size] at this; unfold Hid; omega
      have IS : Hid (MarkOus sub) := IH.out sub (by have := HZ.out; simp only [Ous.size] at this; omega)
      have P3 : Hid _ := p3
      have P5 : Hid _ := p5
      have Q3 : Hid (KeOwn m m1 wr a3 h.keys) := q3
      have Q5 : Hid (OuOwn m1 m3 wr a5 sub) := q5
      have HRE : Hid _ := hrest
      obtain ⟨w0, rfl⟩ : ∃ x, x = wr := ⟨_, rfl⟩
      obtain ⟨u0, hv0⟩ : ∃ v, w0.cell? ⟨b, n * 5, none⟩ = some v := ⟨_, (row_cell H0.out _).trans (Array.getElem?_eq_getElem (by omega))⟩
      obtain ⟨u1, hv1⟩ : ∃ v, w0.cell? ⟨b, n * 5 + 1, none⟩ = some v := ⟨_, (row_cell H0.out _).trans (Array.getElem?_eq_getElem (by omega))⟩
      have hf0 := row_frozen H0.out (n * 5)
      have hf1 := row_frozen H0.out (n * 5 + 1)
      clear c0 c1 c2 p3 p5 q3 q5 hrest HR hcs
      go_wp2_with fail
      refine (mark_text_int _ _ (by omega) (by omega)).mono ?_
      rintro e w2 ⟨rfl, hb2⟩
      have z2 : w0.heap.size ≤ w2.heap.size := by have := hb2.size; simpa using this
      have H2 : Hid (w2.heap[b]? = _) := (hb2.block _ (by simp; omega)).trans (row_set (row_set H0.out (n * 5) _) (n * 5 + 1) _)
      have S2 : Hid (∀ g, b < g → g < w0.heap.size → w2.heap[g]? = w0.heap[g]?) := fun g h1 h2 => (hb2.block g (by simp; omega)).trans ((heap_set _ _ _ _ _ (by omega)).trans (heap_set _ _ _ _ _ (by omega)))
      have K2 : Hid (KeptR lo hi w w2) := ((HK.out.set (p := ⟨b, n * 5, none⟩) f1 f2 _).set (p := ⟨b, n * 5 + 1, none⟩) f1 f2 _).trans (KeptR.of hb2)
      obtain ⟨u2, hv2⟩ : ∃ v, w2.cell? ⟨b, n * 5 + 2, none⟩ = some v := ⟨_, (row_cell H2.out _).trans (Array.getElem?_eq_getElem (by simp; omega))⟩
      have hf2 := row_frozen H2.out (n * 5 + 2)
      have hv3 : w2.cell? ⟨b, n * 5 + 3, none⟩ = some (.slice a3 h.keys.length d3) := (row_cell H2.out _).trans (by rw [Array.getElem?_setIfInBounds_ne (by omega), Array.getElem?_setIfInBounds_ne (by omega)]; exact P3.out)
      clear hb2 hv0 hv1 hf0 hf1
      go_wp2_with fail
      refine Calls.mono (mark_keys a3 d3 h.keys m m1 (q + 3) _ _ (by omega) (OwnR.keep Q3.out ?own) (by simp; omega) (by omega) (by omega)) ?_
      case own =>
        intro g h1 h2
        rw [heap_set _ _ _ _ _ (by omega)]
        exact S2.out g (by omega) (by omega)
      rintro e w3 ⟨r3, rfl, hr3, own3, kept3⟩
      have z3 : w2.heap.size ≤ w3.heap.size := by have := kept3.size; simpa using this
      have O3 : Hid (KeOwn m m1 w3 a3 (mkKe (q + 3) h.keys)) := own3
      have H3 : Hid (w3.heap[b]? = _) := (kept3.block b (by simp; omega) (.inl (by omega))).trans (row_set H2.out (n * 5 + 2) _)
      have S3 : Hid (∀ g, b < g → g < w0.heap.size → (g < m ∨ m1 ≤ g) → w3.heap[g]? = w0.heap[g]?) := fun g h1 h2 h3 => ((kept3.block g (by simp; omega) h3).trans (heap_set _ _ _ _ _ (by omega))).trans (S2.out g h1 h2)
      have K3 : Hid (KeptR lo hi w w3) := (K2.out.set (p := ⟨b, n * 5 + 2, none⟩) f1 f2 _).trans (kept3.mono (by omega) (by omega))
      have hv5 : w3.cell? ⟨b, n * 5 + 4, none⟩ = some (.slice a5 sub.len d5) := (row_cell H3.out _).trans (by rw [Array.getElem?_setIfInBounds_ne (by omega), Array.getElem?_setIfInBounds_ne (by omega), Array.getElem?_setIfInBounds_ne (by omega)]; exact P5.out)
      clear own3 kept3 hv2 hf2 hv3
      go_wp2_with fail
      refine Calls.mono (IS.out a5 d5 m1 m3 (q + cOh h) _ _ (by omega) (OuOwn.keep Q5.out ?own) (by omega) (by omega) (by omega)) ?_
      case own =>
        intro g h1 h2
        exact S3.out g (by omega) (by omega) (.inr h1)
      rintro e w5 ⟨r5, rfl, hr5, own5, kept5⟩
      have z5 := kept5.size
      have O5 : Hid (OuOwn m1 m3 w5 a5 (mkO (q + cOh h) sub)) := own5
      have O3'' : Hid (KeOwn m m1 w5 a3 (mkKe (q + 3) h.keys)) := OwnR.keep O3.out fun g h1 h2 => kept5.block g (by omega) (.inl (by omega))
      have H5 : Hid (w5.heap[b]? = _) := (kept5.block b (by omega) (.inl (by omega))).trans H3.out
      have S5 : Hid (∀ g, b < g → g < hi → (g < m ∨ m3 ≤ g) → w5.heap[g]? = w0.heap[g]?) := fun g h1 h2 h3 => (kept5.block g (by omega) (by omega)).trans (S3.out g h1 (by omega) (by omega))
      have K5 : Hid (KeptR lo hi w w5) := K3.out.trans (kept5.mono (by omega) (by omega))
      have HQ2 : Hid (q + cOh h + cO sub = K + cPo (pre ++ [(h, sub)])) := by have := HQ.out; rw [Hid, cPo_snoc]; omega
      clear own5 kept5 hv5 O3 H3
      go_wp2_with fail
      have HG := OuSeq.mark_step (K := K) (q := q) (h := h) (sub := sub) HP.out.2 hcs2 HS.out HRE.out e1 e2 P3.out pc P5.out O3''.out O5.out S5.out rfl rfl rfl HQ.out
      refine ⟨⟨n + 1, q + cOh h + cO sub, m3, _, pre ++ [(h, sub)], rest, HN2, by go_num, ?_, ⟨by rw [appO_snoc]; exact HP.out.1, by simp [HP.out.2]⟩, HZ2, HQ2, by omega, H5, ?_, HG.1, HG.2, K5⟩, by simp [intOf]; omega⟩
      · exact val_int (by omega)
      · unfold Hid; simp only [Array.size_setIfInBounds]; exact HC.out
/-- A value's lists, owned, one behind the other. -/
def PartsO (lo hi : Nat) (w : World) (b1 b2 : Option Addr) (h : Oh) (sub : Ous) : Prop := ∃ m1, lo ≤ m1 ∧ m1 ≤ hi ∧ KeOwn lo m1 w b1 h.keys ∧ OuOwn m1 hi w b2 sub
theorem PartsO.keep {lo hi : Nat} {w w' : World} {b1 b2 : Option Addr} {h : Oh} {sub : Ous} (H : PartsO lo hi w b1 b2 h sub) (hk : Agree lo hi w w') : PartsO lo hi w' b1 b2 h sub := by
  obtain ⟨m1, e1, e2, p1, p2⟩ := H
  exact ⟨m1, e1, e2, p1.keep fun g h1 h2 => hk g (by omega) (by omega), p2.keep fun g h1 h2 => hk g (by omega) (by omega)⟩
theorem PartsO.wide {lo hi lo' hi' : Nat} {w : World} {b1 b2 : Option Addr} {h : Oh} {sub : Ous} (H : PartsO lo hi w b1 b2 h sub) (e1 : lo' ≤ lo) (e2 : hi ≤ hi') : PartsO lo' hi' w b1 b2 h sub := by
  obtain ⟨m1, f1, f2, p1, p2⟩ := H
  exact ⟨m1, by omega, by omega, p1.wide e1 (Nat.le_refl _), p2.wide (Nat.le_refl _) e2⟩
theorem PartsO.rows {lo hi : Nat} {w : World} {b1 b2 : Option Addr} {h : Oh} {sub : Ous} (H : PartsO lo hi w b1 b2 h sub) : KeRow lo hi w b1 h.keys ∧ OuRow lo hi w b2 sub := by
  obtain ⟨m1, f1, f2, p1, p2⟩ := H
  exact ⟨ke_row (p1.wide (Nat.le_refl _) f2), (p2.wide f1 (Nat.le_refl _)).row⟩
/-- What marks leave of a value: its lists' marks. -/
def mkTop (K : Nat) (h : Oh) : Oh := ⟨h.k, h.n, h.t, mkKe K h.keys⟩
set_option maxHeartbeats 1000000 in
theorem mark_out (h : Oh) (sub : Ous) (a1 a2 : Option Addr) (c1 c2 lo hi K : Nat) (w : World) (ho : PartsO lo hi w a1 a2 h sub) (hhi : hi ≤ w.heap.size) (hk : 0 < K) (hb : ((K + h.keys.length + cO sub : Nat) : Int) ≤ 4611686018427387904) :
    Calls Try.prog 15 #[.agg #[.int .i64 h.k, .int .i64 h.n, .string h.t, .slice a1 h.keys.length c1, .slice a2 sub.len c2], .int .i64 (K : Int)] w fun e w' => ∃ r : Int, e = .returned (.int .i64 r) ∧ r = ((K + h.keys.length + cO sub : Nat) : Int) ∧ PartsO lo hi w' a1 a2 (mkTop K h) (mkO (K + h.keys.length) sub) ∧ KeptR lo hi w w' := by
  obtain ⟨m1, f1, f2, p1, p2⟩ := ho
  have P1 : Hid _ := p1
  have P2 : Hid _ := p2
  clear p1 p2
  obtain ⟨V, hV⟩ : ∃ V, V = w.alloc (.cells #[.int .i64 h.k, .int .i64 h.n, .string h.t, .slice a1 h.keys.length c1, .slice a2 sub.len c2] 30) := ⟨_, rfl⟩
  have B0 : Below w.heap.size w V := by rw [hV]; exact (Below.refl _ _).alloc (Nat.le_refl _) _
  have c0 : V.heap[w.heap.size]? = some (.cells #[.int .i64 h.k, .int .i64 h.n, .string h.t, .slice a1 h.keys.length c1, .slice a2 sub.len c2] 30 (0, 0)) := by rw [hV]; exact heap_alloc_new _ _
  have zV := (Array.getElem?_eq_some_iff.1 c0).1
  have x0 := fun o => row_cell c0 o
  have HB0 : Hid _ := B0
  have HC0 : Hid _ := c0
  clear B0 c0
  go_enter Try.func15, Try.ntmps15
  go_upto_region 1 with fail
  rw [← hV]
  clear hV
  go_wp2_with fail
  refine Calls.mono (mark_keys a1 c1 h.keys lo m1 K _ _ rfl (OwnR.keep P1.out (agree HB0.out (by omega))) (by omega) hk (by omega)) ?_
  rintro e w1 ⟨r1, rfl, hr1, own1, kept1⟩
  have O1 : Hid (KeOwn lo m1 w1 a1 (mkKe K h.keys)) := own1
  have K1 : Hid (KeptR lo m1 V w1) := kept1
  have z1 := kept1.size
  have x1 := fun o => row_cell ((kept1.block w.heap.size zV (.inr (by omega))).trans HC0.out) o
  clear own1 kept1 x0
  go_wp2_with fail
  refine Calls.mono (mark_ous sub a2 c2 m1 hi (K + h.keys.length) _ _ (by omega) (OuOwn.keep P2.out ?own) (by omega) (by omega) (by omega)) ?_
  case own =>
    intro g h1 h2
    exact (K1.out.block g (by omega) (.inr h1)).trans (HB0.out.block g (by omega))
  rintro e w2 ⟨r2, rfl, hr2, own2, kept2⟩
  have HF : Hid (PartsO lo hi w2 a1 a2 (mkTop K h) (mkO (K + h.keys.length) sub)) := ⟨m1, f1, f2, OwnR.keep O1.out (fun g h1 h2 => kept2.block g (by omega) (.inl h2)), own2⟩
  have HK : Hid (KeptR lo hi w w2) := (KeptR.of HB0.out).trans ((K1.out.mono (Nat.le_refl _) f2).trans (kept2.mono f1 (Nat.le_refl _)))
  clear own2 kept2 x1
  go_wp2_with fail
  go_ret
  exact ⟨_, rfl, by omega, HF.out, HK.out⟩
end Go.Proofs.Ytjmkcbjfjejaaaa.G
