/- A run as data, how it lies in memory, and how an argument is opened. -/
import Derived.Test.YtnkaoeijcdchiaaGreatDoorOuOwn
import Derived.Test.YtnkaoeijcdchiaaGreatDoorStPu
import Derived.Test.YtnkaoeijcdchiaaGreatDoorOuRows
namespace Go.Proofs.YtnkaoeijcdchiaaGreatDoor.G
open Go.ChangeShapes Go.WideShapes Go.ChangeAt Go.RowKit
set_option linter.unusedVariables false

set_option maxHeartbeats 4000000 in
set_option maxRecDepth 40000 in
theorem mark_keys (a : Option Addr) (c : Nat) (l : List ByteArray) (lo hi K : Nat) (kk : Int) (w : World) (hkk : kk = (K : Int)) (ho : KeOwn lo hi w a l) (hhi : hi ≤ w.heap.size) (hk : 0 < K) (hb : ((K + l.length : Nat) : Int) ≤ 4611686018427387904) :
    Calls Tryz.prog 45 #[.slice a l.length c, .int .i64 kk] w fun e w' => ∃ r : Int, e = .returned (.int .i64 r) ∧ r = ((K + l.length : Nat) : Int) ∧ KeOwn lo hi w' a (mkKe K l) ∧ KeptR lo hi w w' := by
  have HO : Hid (KeOwn lo hi w a (mix (mkKe K l) l 0)) := by rw [mix_zero]; exact ho
  clear ho
  go_enter Tryz.func45, Tryz.ntmps45
  go_wp2_with fail
  go_loopw [1, 5] (fun s i w' => ∃ (n q : Nat), n ≤ l.length ∧ i = .int .i64 n ∧ s = .int .i64 (q : Int) ∧ Hid (q = K + n) ∧ 0 < q ∧ Hid (KeOwn lo hi w' a (mix (mkKe K l) l n)) ∧ Hid (KeptR lo hi w w')) (fun _ i _ => l.length - (intOf i).toNat)
  case atStart => exact ⟨0, K, by omega, rfl, by rw [hkk], rfl, hk, HO, KeptR.refl _ _ _⟩
  case round =>
    obtain ⟨n, q, hn1, rfl, rfl, HQ, hq0, HW, HK⟩ := hrel
    have hq1 : (q : Int) ≤ 4611686018427387904 := by have := HQ.out; omega
    by_cases hlt : n < l.length
    case neg =>
      have e : n = l.length := by omega
      have HN : Hid (KeOwn lo hi wr a (mkKe K l)) := by
        have h2 := HW.out
        rw [e, mix_all (mkKe_len _ _)] at h2
        exact h2
      have HE : Hid ((q : Int) = ((K + l.length : Nat) : Int)) := by have := HQ.out; unfold Hid; omega
      clear HW HO e
      go_wp2_with fail
      go_ret
      exact ⟨_, rfl, HE.out, HN.out, HK.out⟩
    have HX : Hid ((mkKe K l)[n]? = some (mkT q)) := by rw [HQ.out]; exact mkKe_get _ _ _ hlt
    have HQ9 : Hid (q + 1 = K + (n + 1)) := by have := HQ.out; unfold Hid; omega
    rcases HW.out with h0 | ⟨b, cs, rfl, f1, f2, hh, hcs, hel⟩
    · have h9 := congrArg List.length h0
      rw [mix_len (mkKe_len _ _) hn1] at h9
      simp only [List.length_nil] at h9
      omega
    rw [mix_len (mkKe_len _ _) hn1, Nat.mul_one] at hcs
    have hbl : b < wr.heap.size := (Array.getElem?_eq_some_iff.1 hh).1
    have HL : Hid _ := hel
    obtain ⟨w0, rfl⟩ : ∃ x, x = wr := ⟨_, rfl⟩
    have hl9 : (l.length : Int) ≤ 4611686018427387904 := by omega
    have hq2 : (q : Int) < 4611686018427387904 := by have := HQ.out; omega
    clear hel HW HO hb HQ
    go_wp2_with fail
    refine (mark_text_int _ _ (by omega) (by omega)).mono ?_
    rintro e w1 ⟨rfl, hb1⟩
    have H1 : Hid (w1.heap[b]? = some (.cells cs 9 (0, 0))) := (hb1.block _ hbl).trans hh
    have HK1 : Hid (KeptR lo hi w w1) := HK.out.trans (KeptR.of hb1)
    obtain ⟨u0, hv0⟩ : ∃ v, w1.cell? ⟨b, n, none⟩ = some v := ⟨_, (row_cell H1.out _).trans (Array.getElem?_eq_getElem (by omega))⟩
    have hf0 := row_frozen H1.out n
    clear hb1 hh
    go_wp2_with fail
    refine ⟨⟨n + 1, q + 1, by omega, by go_num, val_int (by omega), HQ9, by omega, ?_, ?_⟩, by simp [intOf]; omega⟩
    · unfold Hid
      refine .inr ⟨b, _, rfl, f1, f2, row_set H1.out _ _, by rw [mix_len (mkKe_len _ _) (by omega)]; simp; exact hcs, fun i y hy => ?_⟩
      by_cases hin : i = n
      · subst hin
        rw [mix_new (mkKe_len _ _) hlt, HX.out] at hy
        simp only [Option.some.injEq] at hy
        subst hy
        show (cs.setIfInBounds _ _)[i * 1]? = _
        rw [Nat.mul_one]
        have : i < cs.size := by omega
        simp [this]
      · rw [mix_next (mkKe_len _ _) hlt i hin] at hy
        show (cs.setIfInBounds _ _)[i * 1]? = _
        rw [Array.getElem?_setIfInBounds_ne (by omega)]
        exact HL.out i y hy
    · exact HK1.out.set (p := ⟨b, n, none⟩) f1 f2 _

def put3 (cs : Array Value) (k : Nat) (v0 v1 v2 : Value) : Array Value := ((cs.setIfInBounds k v0).setIfInBounds (k + 1) v1).setIfInBounds (k + 2) v2
theorem put3_at {cs : Array Value} {k : Nat} {v0 v1 v2 : Value} (h : k + 2 < cs.size) : (put3 cs k v0 v1 v2)[k]? = some v0 ∧ (put3 cs k v0 v1 v2)[k + 1]? = some v1 ∧ (put3 cs k v0 v1 v2)[k + 2]? = some v2 := by
  unfold put3
  refine ⟨?_, ?_, ?_⟩ <;> simp [Array.getElem?_setIfInBounds] <;> omega
theorem put3_ne {cs : Array Value} {k : Nat} {v0 v1 v2 : Value} {j : Nat} (h : j < k ∨ k + 3 ≤ j) : (put3 cs k v0 v1 v2)[j]? = cs[j]? := by
  unfold put3
  rw [Array.getElem?_setIfInBounds_ne (by omega), Array.getElem?_setIfInBounds_ne (by omega), Array.getElem?_setIfInBounds_ne (by omega)]
theorem OuSeq.mark_step {w0 w5 : World} {b m m1 m3 hi n q K : Nat} {cs : Array Value} {pre : List (Oh × Ous)} {h : Oh} {sub rest : Ous} {a3 a5 : Option Addr} {d3 d5 : Nat} {v0 v1 v2 : Value}
    (hlen : pre.length = n) (hcs : n * 5 + 5 ≤ cs.size) (HP : OuSeq w0 (appO (mkPo K pre) .nil) cs 0 (b + 1) m) (HR : OuSeq w0 rest cs (n * 5 + 5) m3 hi) (e1 : m ≤ m1) (e2 : m1 ≤ m3)
    (p3 : cs[n * 5 + 3]? = some (.slice a3 h.keys.length d3)) (pc : h.keys.length ≤ d3) (p5 : cs[n * 5 + 4]? = some (.slice a5 sub.len d5))
    (o3 : KeOwn m m1 w5 a3 (mkKe (q + 3) h.keys)) (o5 : OuOwn m1 m3 w5 a5 (mkO (q + cOh h) sub))
    (S : ∀ g, b < g → g < hi → (g < m ∨ m3 ≤ g) → w5.heap[g]? = w0.heap[g]?) (ev0 : v0 = .int .i64 (q : Int)) (ev1 : v1 = .int .i64 ((q + 1 : Nat) : Int)) (ev2 : v2 = .string (mkT (q + 2))) (hq : q = K + cPo pre) :
    OuSeq w5 (appO (mkPo K (pre ++ [(h, sub)])) .nil) (put3 cs (n * 5) v0 v1 v2) 0 (b + 1) m3 ∧ OuSeq w5 rest (put3 cs (n * 5) v0 v1 v2) ((n + 1) * 5) m3 hi := by
  have hm := HP.le
  have hr := HR.le
  subst hlen
  obtain ⟨g0, g1, g2⟩ := put3_at (cs := cs) (k := pre.length * 5) (v0 := v0) (v1 := v1) (v2 := v2) (by omega)
  have gx : ∀ j, j < pre.length * 5 ∨ pre.length * 5 + 3 ≤ j → (put3 cs (pre.length * 5) v0 v1 v2)[j]? = cs[j]? := fun j hj => put3_ne hj
  generalize put3 cs (pre.length * 5) v0 v1 v2 = cs' at *
  constructor
  · rw [mkPo_snoc, ← hq]
    refine OuSeq.snoc _ (OuSeq.cells (cs := cs) (OuSeq.keep HP fun g h1 h2 => S g (by omega) (by omega) (.inl h2)) fun j _ hj => gx j ?_) ?_
    · rw [appO_len, mkPo_len] at hj
      simp only [Ous.len] at hj
      omega
    · rw [mkPo_len, show 0 + 5 * pre.length = pre.length * 5 by omega]
      refine ⟨m1, e1, e2, g0.trans (by rw [ev0]; rfl), g1.trans (by rw [ev1]; rfl), g2.trans (by rw [ev2]; rfl), ⟨a3, d3, ?_, ?_, o3⟩, ⟨a5, d5, ?_, o5⟩⟩
      · rw [gx _ (by omega), p3]; simp only [mkOh, mkKe_len]
      · simp only [mkOh, mkKe_len]; exact pc
      · rw [gx _ (by omega), p5, mkO_len]
  · rw [show (pre.length + 1) * 5 = pre.length * 5 + 5 by omega]
    exact OuSeq.cells (cs := cs) (OuSeq.keep HR fun g h1 h2 => S g (by omega) h2 (.inr h1)) fun j h1 _ => gx j (by omega)

def MarkOus (l : Ous) : Prop := ∀ (a : Option Addr) (c lo hi K : Nat) (kk : Int) (w : World), kk = (K : Int) → OuOwn lo hi w a l → hi ≤ w.heap.size → 0 < K → ((K + cO l : Nat) : Int) ≤ 4611686018427387904 →
    Calls Tryz.prog 73 #[.slice a l.len c, .int .i64 kk] w fun e w' => ∃ r : Int, e = .returned (.int .i64 r) ∧ r = ((K + cO l : Nat) : Int) ∧ OuOwn lo hi w' a (mkO K l) ∧ KeptR lo hi w w'

set_option maxHeartbeats 4000000 in
set_option maxRecDepth 40000 in
theorem mark_ous (l : Ous) : MarkOus l := by
  induction hN : l.size using Nat.strongRecOn generalizing l with
  | _ N ih =>
  subst hN
  intro a c lo hi K kk w hkk ho hhi hk hb
  have IH : Hid (∀ sub : Ous, sub.size < l.size → MarkOus sub) := fun sub hsub => ih sub.size hsub sub rfl
  clear ih
  subst hkk
  rcases ho with rfl | ⟨b, ds, rfl, f1, f2, f3, f4, f5⟩
  · simp only [Ous.len]
    go_enter Tryz.func73, Tryz.ntmps73
    go_wp2_with fail
    go_loopw [1, 5] (fun s i w' => s = .int .i64 (K : Int) ∧ i = .int .i64 0 ∧ w' = w) (fun _ _ _ => 0)
    case atStart => exact ⟨rfl, rfl, rfl⟩
    case round =>
      obtain ⟨rfl, rfl, rfl⟩ := hrel
      go_wp2_with fail
      go_ret
      exact ⟨_, rfl, by simp [cO], .inl rfl, KeptR.refl _ _ _⟩
  have hl9 : (l.len : Int) ≤ 4611686018427387904 := by have := len_cO l; omega
  have HB : Hid _ := hb
  have F3 : Hid _ := f3
  have F4 : Hid _ := f4
  have F5 : Hid _ := f5
  clear f3 f4 f5 hb
  go_enter Tryz.func73, Tryz.ntmps73
  go_wp2_with fail
  go_loopw [1, 5] (fun s i w' => ∃ (n q m : Nat) (cs : Array Value) (pre : List (Oh × Ous)) (rest : Ous), Hid (l.len = n + rest.len) ∧ i = .int .i64 n ∧ s = .int .i64 (q : Int) ∧ Hid (l = appO pre rest ∧ pre.length = n) ∧ Hid (rest.size ≤ l.size) ∧ Hid (q = K + cPo pre) ∧ 0 < q ∧ Hid (w'.heap[b]? = some (.cells cs 44 (0, 0))) ∧ Hid (l.len * 5 ≤ cs.size) ∧ Hid (OuSeq w' (appO (mkPo K pre) .nil) cs 0 (b + 1) m) ∧ Hid (OuSeq w' rest cs (n * 5) m hi) ∧ Hid (KeptR lo hi w w')) (fun _ i _ => l.len - (intOf i).toNat)
  case atStart => exact ⟨0, K, b + 1, ds, [], l, by simp [Hid], rfl, rfl, ⟨rfl, rfl⟩, Nat.le_refl _, by simp [Hid, cPo], hk, F3, F4, Nat.le_refl _, by rw [Nat.zero_mul]; exact F5, KeptR.refl _ _ _⟩
  case round =>
    obtain ⟨n, q, m, cs, pre, rest, HN, rfl, rfl, HP, HZ, HQ, hq0, H0, HC, HS, HR, HK⟩ := hrel
    cases rest with
    | nil =>
      have hk' : ¬ n < l.len := by rw [HN.out]; simp only [Ous.len]; omega
      have HE : Hid ((q : Int) = ((K + cO l : Nat) : Int) ∧ OuOwn lo hi wr (some ⟨b, 0, none⟩) (mkO K l)) := by
        obtain ⟨hp1, hp2⟩ := HP.out
        have hq := HQ.out
        refine ⟨by rw [hp1, cO_app]; simp only [cO]; omega, .inr ⟨b, cs, rfl, f1, f2, H0.out, by rw [mkO_len]; exact HC.out, ?_⟩⟩
        rw [hp1, mkO_app]
        exact OuSeq.widen HS.out HR.out
      clear HS HR HP HQ
      go_wp2_with fail
      go_ret
      exact ⟨_, rfl, HE.out.1, HE.out.2, HK.out⟩
    | cons h sub rest =>
      have hlt : n < l.len := by rw [HN.out]; simp only [Ous.len]; omega
      have HN2 : Hid (l.len = n + 1 + rest.len) := by rw [Hid, HN.out]; simp only [Ous.len]; omega
      obtain ⟨m3, ⟨m1, e1, e2, c0, c1, c2, ⟨a3, d3, p3, pc, q3⟩, ⟨a5, d5, p5, q5⟩⟩, hrest⟩ := OuSeq.uncons HR.out
      have hbm := OuSeq.le HS.out
      have hm3 := OuSeq.le hrest
      have hz0 : hi ≤ wr.heap.size := by have := HK.out.size; omega
      have hcs := HC.out
      have hcs2 : n * 5 + 5 ≤ cs.size := by omega
      have hq4 : (q : Int) + ((cOh h + cO sub : Nat) : Int) ≤ 4611686018427387904 := by
        have h1 := HB.out
        rw [HP.out.1, cO_app] at h1
        simp only [cO] at h1
        have h2 := HQ.out
        omega
      have hch : cOh h = 3 + h.keys.length := rfl
      have HZ2 : Hid (rest.size ≤ l.size) := by have := HZ.out; simp only [Ous.size] at this; unfold Hid; omega
      have IS : Hid (MarkOus sub) := IH.out sub (by have := HZ.out; simp only [Ous.size] at this; omega)
      have P3 : Hid _ := p3
      have P5 : Hid _ := p5
      have Q3 : Hid (KeOwn m m1 wr a3 h.keys) := q3
      have Q5 : Hid (OuOwn m1 m3 wr a5 sub) := q5
      have HRE : Hid _ := hrest
      obtain ⟨w0, rfl⟩ : ∃ x, x = wr := ⟨_, rfl⟩
      obtain ⟨u0, hv0⟩ : ∃ v, w0.cell? ⟨b, n * 5, none⟩ = some v := ⟨_, (row_cell H0.out _).trans (Array.getElem?_eq_getElem (by omega))⟩
      obtain ⟨u1, hv1⟩ : ∃ v, w0.cell? ⟨b, n * 5 + 1, none⟩ = some v := ⟨_, (row_cell H0.out _).trans (Array.getElem?_eq_getElem (by omega))⟩
      have hf0 := row_frozen H0.out (n * 5)
      have hf1 := row_frozen H0.out (n * 5 + 1)
      clear c0 c1 c2 p3 p5 q3 q5 hrest HR hcs
      go_wp2_with fail
      refine (mark_text_int _ _ (by omega) (by omega)).mono ?_
      rintro e w2 ⟨rfl, hb2⟩
      have z2 : w0.heap.size ≤ w2.heap.size := by have := hb2.size; simpa using this
      have H2 : Hid (w2.heap[b]? = _) := (hb2.block _ (by simp; omega)).trans (row_set (row_set H0.out (n * 5) _) (n * 5 + 1) _)
      have S2 : Hid (∀ g, b < g → g < w0.heap.size → w2.heap[g]? = w0.heap[g]?) := fun g h1 h2 => (hb2.block g (by simp; omega)).trans ((heap_set _ _ _ _ _ (by omega)).trans (heap_set _ _ _ _ _ (by omega)))
      have K2 : Hid (KeptR lo hi w w2) := ((HK.out.set (p := ⟨b, n * 5, none⟩) f1 f2 _).set (p := ⟨b, n * 5 + 1, none⟩) f1 f2 _).trans (KeptR.of hb2)
      obtain ⟨u2, hv2⟩ : ∃ v, w2.cell? ⟨b, n * 5 + 2, none⟩ = some v := ⟨_, (row_cell H2.out _).trans (Array.getElem?_eq_getElem (by simp; omega))⟩
      have hf2 := row_frozen H2.out (n * 5 + 2)
      have hv3 : w2.cell? ⟨b, n * 5 + 3, none⟩ = some (.slice a3 h.keys.length d3) := (row_cell H2.out _).trans (by rw [Array.getElem?_setIfInBounds_ne (by omega), Array.getElem?_setIfInBounds_ne (by omega)]; exact P3.out)
      clear hb2 hv0 hv1 hf0 hf1
      go_wp2_with fail
      refine Calls.mono (mark_keys a3 d3 h.keys m m1 (q + 3) _ _ (by omega) (OwnR.keep Q3.out ?own) (by simp; omega) (by omega) (by omega)) ?_
      case own =>
        intro g h1 h2
        rw [heap_set _ _ _ _ _ (by omega)]
        exact S2.out g (by omega) (by omega)
      rintro e w3 ⟨r3, rfl, hr3, own3, kept3⟩
      have z3 : w2.heap.size ≤ w3.heap.size := by have := kept3.size; simpa using this
      have O3 : Hid (KeOwn m m1 w3 a3 (mkKe (q + 3) h.keys)) := own3
      have H3 : Hid (w3.heap[b]? = _) := (kept3.block b (by simp; omega) (.inl (by omega))).trans (row_set H2.out (n * 5 + 2) _)
      have S3 : Hid (∀ g, b < g → g < w0.heap.size → (g < m ∨ m1 ≤ g) → w3.heap[g]? = w0.heap[g]?) := fun g h1 h2 h3 => ((kept3.block g (by simp; omega) h3).trans (heap_set _ _ _ _ _ (by omega))).trans (S2.out g h1 h2)
      have K3 : Hid (KeptR lo hi w w3) := (K2.out.set (p := ⟨b, n * 5 + 2, none⟩) f1 f2 _).trans (kept3.mono (by omega) (by omega))
      have hv5 : w3.cell? ⟨b, n * 5 + 4, none⟩ = some (.slice a5 sub.len d5) := (row_cell H3.out _).trans (by rw [Array.getElem?_setIfInBounds_ne (by omega), Array.getElem?_setIfInBounds_ne (by omega), Array.getElem?_setIfInBounds_ne (by omega)]; exact P5.out)
      clear own3 kept3 hv2 hf2 hv3
      go_wp2_with fail
      refine Calls.mono (IS.out a5 d5 m1 m3 (q + cOh h) _ _ (by omega) (OuOwn.keep Q5.out ?own) (by omega) (by omega) (by omega)) ?_
      case own =>
        intro g h1 h2
        exact S3.out g (by omega) (by omega) (.inr h1)
      rintro e w5 ⟨r5, rfl, hr5, own5, kept5⟩
      have z5 := kept5.size
      have O5 : Hid (OuOwn m1 m3 w5 a5 (mkO (q + cOh h) sub)) := own5
      have O3'' : Hid (KeOwn m m1 w5 a3 (mkKe (q + 3) h.keys)) := OwnR.keep O3.out fun g h1 h2 => kept5.block g (by omega) (.inl (by omega))
      have H5 : Hid (w5.heap[b]? = _) := (kept5.block b (by omega) (.inl (by omega))).trans H3.out
      have S5 : Hid (∀ g, b < g → g < hi → (g < m ∨ m3 ≤ g) → w5.heap[g]? = w0.heap[g]?) := fun g h1 h2 h3 => (kept5.block g (by omega) (by omega)).trans (S3.out g h1 (by omega) (by omega))
      have K5 : Hid (KeptR lo hi w w5) := K3.out.trans (kept5.mono (by omega) (by omega))
      have HQ2 : Hid (q + cOh h + cO sub = K + cPo (pre ++ [(h, sub)])) := by have := HQ.out; rw [Hid, cPo_snoc]; omega
      clear own5 kept5 hv5 O3 H3
      go_wp2_with fail
      have HG := OuSeq.mark_step (K := K) (q := q) (h := h) (sub := sub) HP.out.2 hcs2 HS.out HRE.out e1 e2 P3.out pc P5.out O3''.out O5.out S5.out rfl rfl rfl HQ.out
      refine ⟨⟨n + 1, q + cOh h + cO sub, m3, _, pre ++ [(h, sub)], rest, HN2, by go_num, ?_, ⟨by rw [appO_snoc]; exact HP.out.1, by simp [HP.out.2]⟩, HZ2, HQ2, by omega, H5, ?_, HG.1, HG.2, K5⟩, by simp [intOf]; omega⟩
      · exact val_int (by omega)
      · unfold Hid; simp only [Array.size_setIfInBounds]; exact HC.out
/-- A value's lists, owned, one behind the other. -/
def PartsO (lo hi : Nat) (w : World) (b1 b2 : Option Addr) (h : Oh) (sub : Ous) : Prop := ∃ m1, lo ≤ m1 ∧ m1 ≤ hi ∧ KeOwn lo m1 w b1 h.keys ∧ OuOwn m1 hi w b2 sub
theorem PartsO.keep {lo hi : Nat} {w w' : World} {b1 b2 : Option Addr} {h : Oh} {sub : Ous} (H : PartsO lo hi w b1 b2 h sub) (hk : Agree lo hi w w') : PartsO lo hi w' b1 b2 h sub := by
  obtain ⟨m1, e1, e2, p1, p2⟩ := H
  exact ⟨m1, e1, e2, p1.keep fun g h1 h2 => hk g (by omega) (by omega), p2.keep fun g h1 h2 => hk g (by omega) (by omega)⟩
theorem PartsO.wide {lo hi lo' hi' : Nat} {w : World} {b1 b2 : Option Addr} {h : Oh} {sub : Ous} (H : PartsO lo hi w b1 b2 h sub) (e1 : lo' ≤ lo) (e2 : hi ≤ hi') : PartsO lo' hi' w b1 b2 h sub := by
  obtain ⟨m1, f1, f2, p1, p2⟩ := H
  exact ⟨m1, by omega, by omega, p1.wide e1 (Nat.le_refl _), p2.wide (Nat.le_refl _) e2⟩
theorem PartsO.rows {lo hi : Nat} {w : World} {b1 b2 : Option Addr} {h : Oh} {sub : Ous} (H : PartsO lo hi w b1 b2 h sub) : KeRow lo hi w b1 h.keys ∧ OuRow lo hi w b2 sub := by
  obtain ⟨m1, f1, f2, p1, p2⟩ := H
  exact ⟨ke_row (p1.wide (Nat.le_refl _) f2), (p2.wide f1 (Nat.le_refl _)).row⟩
/-- What marks leave of a value: its lists' marks. -/
def mkTop (K : Nat) (h : Oh) : Oh := ⟨h.k, h.n, h.t, mkKe K h.keys⟩
set_option maxHeartbeats 1000000 in
theorem mark_out (h : Oh) (sub : Ous) (a1 a2 : Option Addr) (c1 c2 lo hi K : Nat) (w : World) (ho : PartsO lo hi w a1 a2 h sub) (hhi : hi ≤ w.heap.size) (hk : 0 < K) (hb : ((K + h.keys.length + cO sub : Nat) : Int) ≤ 4611686018427387904) :
    Calls Tryz.prog 44 #[.agg #[.int .i64 h.k, .int .i64 h.n, .string h.t, .slice a1 h.keys.length c1, .slice a2 sub.len c2], .int .i64 (K : Int)] w fun e w' => ∃ r : Int, e = .returned (.int .i64 r) ∧ r = ((K + h.keys.length + cO sub : Nat) : Int) ∧ PartsO lo hi w' a1 a2 (mkTop K h) (mkO (K + h.keys.length) sub) ∧ KeptR lo hi w w' := by
  obtain ⟨m1, f1, f2, p1, p2⟩ := ho
  have P1 : Hid _ := p1
  have P2 : Hid _ := p2
  clear p1 p2
  obtain ⟨V, hV⟩ : ∃ V, V = w.alloc (.cells #[.int .i64 h.k, .int .i64 h.n, .string h.t, .slice a1 h.keys.length c1, .slice a2 sub.len c2] 44) := ⟨_, rfl⟩
  have B0 : Below w.heap.size w V := by rw [hV]; exact (Below.refl _ _).alloc (Nat.le_refl _) _
  have c0 : V.heap[w.heap.size]? = some (.cells #[.int .i64 h.k, .int .i64 h.n, .string h.t, .slice a1 h.keys.length c1, .slice a2 sub.len c2] 44 (0, 0)) := by rw [hV]; exact heap_alloc_new _ _
  have zV := (Array.getElem?_eq_some_iff.1 c0).1
  have x0 := fun o => row_cell c0 o
  have HB0 : Hid _ := B0
  have HC0 : Hid _ := c0
  clear B0 c0
  go_enter Tryz.func44, Tryz.ntmps44
  go_upto_region 1 with fail
  rw [← hV]
  clear hV
  go_wp2_with fail
  refine Calls.mono (mark_keys a1 c1 h.keys lo m1 K _ _ rfl (OwnR.keep P1.out (agree HB0.out (by omega))) (by omega) hk (by omega)) ?_
  rintro e w1 ⟨r1, rfl, hr1, own1, kept1⟩
  have O1 : Hid (KeOwn lo m1 w1 a1 (mkKe K h.keys)) := own1
  have K1 : Hid (KeptR lo m1 V w1) := kept1
  have z1 := kept1.size
  have x1 := fun o => row_cell ((kept1.block w.heap.size zV (.inr (by omega))).trans HC0.out) o
  clear own1 kept1 x0
  go_wp2_with fail
  refine Calls.mono (mark_ous sub a2 c2 m1 hi (K + h.keys.length) _ _ (by omega) (OuOwn.keep P2.out ?own) (by omega) (by omega) (by omega)) ?_
  case own =>
    intro g h1 h2
    exact (K1.out.block g (by omega) (.inr h1)).trans (HB0.out.block g (by omega))
  rintro e w2 ⟨r2, rfl, hr2, own2, kept2⟩
  have HF : Hid (PartsO lo hi w2 a1 a2 (mkTop K h) (mkO (K + h.keys.length) sub)) := ⟨m1, f1, f2, OwnR.keep O1.out (fun g h1 h2 => kept2.block g (by omega) (.inl h2)), own2⟩
  have HK : Hid (KeptR lo hi w w2) := (KeptR.of HB0.out).trans ((K1.out.mono (Nat.le_refl _) f2).trans (kept2.mono f1 (Nat.le_refl _)))
  clear own2 kept2 x1
  go_wp2_with fail
  go_ret
  exact ⟨_, rfl, by omega, HF.out, HK.out⟩
end Go.Proofs.YtnkaoeijcdchiaaGreatDoor.G
namespace Go.Proofs.YtnkaoeijcdchiaaGreatDoor.G
open Go.ChangeShapes Go.WideShapes Go.ChangeAt Go.RowKit
set_option linter.unusedVariables false

theorem put5_ne {cs : Array Value} {k : Nat} {v0 v1 v2 v3 v4 : Value} {j : Nat} (h : j < k ∨ k + 5 ≤ j) : (put5 cs k v0 v1 v2 v3 v4)[j]? = cs[j]? := by
  unfold put5
  rw [Array.getElem?_setIfInBounds_ne (by omega), Array.getElem?_setIfInBounds_ne (by omega), Array.getElem?_setIfInBounds_ne (by omega), Array.getElem?_setIfInBounds_ne (by omega), Array.getElem?_setIfInBounds_ne (by omega)]
theorem OuSeq.lay {w0 W' : World} {k lo m hi : Nat} {cs : Array Value} {pre : List (Oh × Ous)} {h : Oh} {sub : Ous} {b1 b2 : Option Addr} {f1 f2 : Nat} (hf : h.keys.length ≤ f1) (hlen : pre.length = k) (hcs : k * 5 + 5 ≤ cs.size) (HL : OuSeq w0 (appO pre .nil) cs 0 lo m) (ha : Agree lo m w0 W') (HP : PartsO m hi W' b1 b2 h sub) :
    OuSeq W' (appO (pre ++ [(h, sub)]) .nil) (put5 cs (k * 5) (.int .i64 h.k) (.int .i64 h.n) (.string h.t) (.slice b1 h.keys.length f1) (.slice b2 sub.len f2)) 0 lo hi := by
  subst hlen
  obtain ⟨g0, g1, g2, g3, g4⟩ := put5_at (cs := cs) (k := pre.length * 5) (v0 := .int .i64 h.k) (v1 := .int .i64 h.n) (v2 := .string h.t) (v3 := .slice b1 h.keys.length f1) (v4 := .slice b2 sub.len f2) (by omega)
  obtain ⟨m1, e1, e2, p1, p2⟩ := HP
  refine OuSeq.snoc pre (OuSeq.cells (cs := cs) (OuSeq.keep HL ha) fun j _ hj => put5_ne ?_) ?_
  · rw [appO_len] at hj
    simp only [Ous.len] at hj
    omega
  · rw [show 0 + 5 * pre.length = pre.length * 5 by omega]
    exact ⟨m1, e1, e2, g0, g1, g2, ⟨b1, f1, g3, hf, p1⟩, ⟨b2, f2, g4, p2⟩⟩
set_option maxHeartbeats 1000000 in
theorem to_keys_o (a : Option Addr) (c : Nat) (l : List ByteArray) (w : World) (hr : KeRow 0 w.heap.size w a l) (hl : l.length ≤ 1048576) :
    Calls Tryz.prog 31 #[.slice a l.length c] w fun e w' => ∃ a', e = .returned (.slice a' l.length l.length) ∧ KeOwn w.heap.size w'.heap.size w' a' l ∧ Below w.heap.size w w' := by
  have HR : Hid (KeRow 0 w.heap.size w a l) := hr
  clear hr
  obtain ⟨i27, hi, hz, hsz, hby⟩ := info_str
  have hmk := run_make (P := Tryz.prog) w 27 9 i27 _ Tryz.underlying27 hi hz .i64 .i64 (l.length : Int) (l.length : Int) (by omega) (by omega) (by rw [hby]; omega) (by omega)
  rw [hsz, Int.toNat_natCast, Nat.mul_one] at hmk
  clear hi hz hsz hby
  have hs0 := size_madeCells (Value.string ⟨#[]⟩).cells l.length
  generalize madeCells (Value.string ⟨#[]⟩).cells l.length = cs0 at *
  go_enter Tryz.func31, Tryz.ntmps31
  go_wp2_with fail
  go_loopw [4] (fun i w' => ∃ (k : Nat) (cs : Array Value), k ≤ l.length ∧ i = .int .i64 k ∧ Below w.heap.size w w' ∧ Hid (w'.heap[w.heap.size]? = some (.cells cs 9 (0, 0))) ∧ cs.size = l.length ∧ Hid (∀ i (h : i < l.length), i < k → cs[i]? = some (.string l[i]))) (fun i _ => l.length - (intOf i).toNat)
  case atStart => exact ⟨0, cs0, by omega, rfl, (Below.refl _ _).alloc (Nat.le_refl _) _, heap_alloc_new _ _, hs0, fun i _ h => by omega⟩
  case round =>
    obtain ⟨wo, rfl⟩ : ∃ x, x = wr := ⟨_, rfl⟩
    obtain ⟨k, cs, hk, rfl, hb, HH, hcs, HL⟩ := hrel
    clear hmk hs0
    by_cases hlt : k < l.length
    · obtain ⟨b, o, ha, _, hbl, c0⟩ := KeRow.cells (KeRow.keep HR.out (agree hb (Nat.le_refl _))) k hlt
      subst ha
      obtain ⟨v0, hv0⟩ : ∃ v, wo.cell? ⟨w.heap.size, k, none⟩ = some v := ⟨_, (row_cell HH.out _).trans (Array.getElem?_eq_getElem (by omega))⟩
      have hf0 := row_frozen HH.out k
      go_wp2_with fail
      refine ⟨⟨k + 1, _, by omega, by go_num, hb.setCell (Nat.le_refl _) _, row_set HH.out _ _, by simp [hcs], ?_⟩, by simp [intOf]; omega⟩
      intro i hi1 hi2
      by_cases e : i = k
      · subst e; simp [Array.getElem?_setIfInBounds]; omega
      · rw [Array.getElem?_setIfInBounds_ne (by omega)]; exact HL.out i hi1 (by omega)
    · go_wp2_with fail
      go_ret
      refine ⟨_, rfl, .inr ⟨w.heap.size, cs, rfl, Nat.le_refl _, (Array.getElem?_eq_some_iff.1 HH.out).1, HH.out, by omega, fun i x hx => ?_⟩, hb⟩
      obtain ⟨hi, rfl⟩ := List.getElem?_eq_some_iff.1 hx
      show cs[i * 1]? = _
      rw [Nat.mul_one]
      exact HL.out i hi (by omega)
def ToOusO (l : Ous) : Prop := ∀ (a : Option Addr) (c : Nat) (w : World), OuRow 0 w.heap.size w a l → l.len ≤ 1048576 → OusBd 1048576 l →
    Calls Tryz.prog 57 #[.slice a l.len c] w fun e w' => ∃ a', e = .returned (.slice a' l.len l.len) ∧ OuOwn w.heap.size w'.heap.size w' a' l ∧ Below w.heap.size w w'
set_option maxHeartbeats 2000000 in
theorem to_out_o (h : Oh) (sub : Ous) (ih : ToOusO sub) (a1 a2 : Option Addr) (c1 c2 : Nat) (w : World) (r1 : KeRow 0 w.heap.size w a1 h.keys) (r2 : OuRow 0 w.heap.size w a2 sub)
    (hb : OhBd 1048576 h) (hl : sub.len ≤ 1048576) (hs : OusBd 1048576 sub) :
    Calls Tryz.prog 30 #[.agg #[.int .i64 h.k, .int .i64 h.n, .string h.t, .slice a1 h.keys.length c1, .slice a2 sub.len c2]] w fun e w' =>
      ∃ b1 b2, e = .returned (.agg #[.int .i64 h.k, .int .i64 h.n, .string h.t, .slice b1 h.keys.length h.keys.length, .slice b2 sub.len sub.len]) ∧
        PartsO w.heap.size w'.heap.size w' b1 b2 h sub ∧ Below w.heap.size w w' := by
  obtain ⟨x1, x2, x3⟩ := hb
  have K1 : Hid (∀ W0, Below w.heap.size w W0 → KeRow 0 W0.heap.size W0 a1 h.keys) := fun W0 hB => KeRow.up r1 hB
  have K2 : Hid (∀ W0, Below w.heap.size w W0 → OuRow 0 W0.heap.size W0 a2 sub) := fun W0 hB => OuRow.up r2 hB
  have HI : Hid (ToOusO sub) := ih
  have HS : Hid (OusBd 1048576 sub) := hs
  clear r1 r2 ih hs x3
  go_enter Tryz.func30, Tryz.ntmps30
  go_wp2_with fail
  refine (to_keys_o a1 c1 h.keys _ (K1.out _ ?b0) x2).mono ?_
  case b0 => repeat (first | exact Below.refl _ _ | refine Below.setCell ?_ (by simp <;> omega) _ | refine Below.alloc ?_ (by simp <;> omega) _)
  rintro e w1 ⟨b1, rfl, A1, hb1⟩
  have hz1 : w.heap.size + 3 ≤ w1.heap.size := by have := hb1.size; simp at this; omega
  have A1 : Hid (KeOwn (w.heap.size + 3) w1.heap.size w1 b1 h.keys) := OwnR.wide A1 (by simp <;> omega) (Nat.le_refl _)
  have q1 : Below w.heap.size w w1 := by
    refine Below.trans ?_ (hb1.mono (by simp <;> omega))
    repeat (first | exact Below.refl _ _ | refine Below.setCell ?_ (by simp <;> omega) _ | refine Below.alloc ?_ (by simp <;> omega) _)
  have k10 := fun o => hb1.cell (p := ⟨w.heap.size, o, none⟩) (by simp <;> omega)
  have k11 := fun o => hb1.cell (p := ⟨w.heap.size + 1, o, none⟩) (by simp <;> omega)
  have k12 := fun o => hb1.cell (p := ⟨w.heap.size + 1 + 1, o, none⟩) (by simp <;> omega)
  have j11 := fun o => hb1.frozen (p := ⟨w.heap.size + 1, o, none⟩) (by simp <;> omega)
  have j12 := fun o => hb1.frozen (p := ⟨w.heap.size + 1 + 1, o, none⟩) (by simp <;> omega)
  have Q1 : Hid _ := q1
  clear hb1 q1
  go_wp2_with fail
  refine (HI.out a2 c2 _ (K2.out _ ?b0) hl HS.out).mono ?_
  case b0 => exact Below.setCell Q1.out (by simp <;> omega) _
  rintro e w3 ⟨b3, rfl, A3, hb3⟩
  have hz3 : w1.heap.size ≤ w3.heap.size := by have := hb3.size; simpa using this
  have A3 : Hid (OuOwn w1.heap.size w3.heap.size w3 b3 sub) := OuOwn.wide A3 (by simp) (Nat.le_refl _)
  have A1 : Hid (KeOwn (w.heap.size + 3) w1.heap.size w3 b1 h.keys) := OwnR.keep A1.out (fun g h1 h2 => (agree hb3 (lo := w.heap.size + 3) (hi := w1.heap.size) (by simp) g h1 h2).trans (heap_set _ _ _ _ _ (by omega)))
  have q3 : Below w.heap.size w w3 := (Below.setCell Q1.out (by simp <;> omega) _).trans (hb3.mono (by simp <;> omega))
  have k31 := fun o => hb3.cell (p := ⟨w.heap.size + 1, o, none⟩) (by simp <;> omega)
  have k32 := fun o => hb3.cell (p := ⟨w.heap.size + 1 + 1, o, none⟩) (by simp <;> omega)
  have j31 := fun o => hb3.frozen (p := ⟨w.heap.size + 1, o, none⟩) (by simp <;> omega)
  have j32 := fun o => hb3.frozen (p := ⟨w.heap.size + 1 + 1, o, none⟩) (by simp <;> omega)
  have Q3 : Hid _ := q3
  clear hb3 q3
  go_wp2_with fail
  refine bodyPost_ret (v := .agg #[.int .i64 h.k, .int .i64 h.n, .string h.t, .slice b1 h.keys.length h.keys.length, .slice b3 sub.len sub.len]) (by simp [results, Tryz.results30, go_sem, k11, k31]) rfl ⟨b1, b3, rfl, ?_⟩
  have G : ∀ W' : World, W'.heap.size = w3.heap.size → Agree (w.heap.size + 3) w3.heap.size w3 W' → Below w.heap.size w W' → PartsO w.heap.size W'.heap.size W' b1 b3 h sub ∧ Below w.heap.size w W' :=
    fun W' hw ha hB => ⟨⟨w1.heap.size, by omega, by omega, OwnR.wide (OwnR.keep A1.out (fun g h1 h2 => ha g h1 (by omega))) (by omega) (Nat.le_refl _), OuOwn.wide (OuOwn.keep A3.out (fun g h1 h2 => ha g (by omega) h2)) (Nat.le_refl _) (by omega)⟩, hB⟩
  refine G _ (by simp) ?_ ?_
  · intro g h1 h2
    repeat rw [heap_set _ _ _ _ _ (by omega)]
  · repeat (refine Below.setCell ?_ (by simp <;> omega) _)
    exact Q3.out
set_option maxHeartbeats 2000000 in
theorem to_ous_o (l : Ous) : ToOusO l := by
  induction hN : l.size using Nat.strongRecOn generalizing l with
  | _ N ih =>
  subst hN
  intro a c w hr hl hbd
  have IH : Hid (∀ sub : Ous, sub.size < l.size → ToOusO sub) := fun sub hsub => ih sub.size hsub sub rfl
  have HR : Hid (OuFrom 0 w.heap.size w a 0 l) := hr.from_
  have HB : Hid (OusBd 1048576 l) := hbd
  clear hr ih hbd
  obtain ⟨i27, hi, hz, hsz, hby⟩ := info_out
  have hmk := run_make (P := Tryz.prog) w 42 44 i27 _ Tryz.underlying42 hi hz .i64 .i64 (l.len : Int) (l.len : Int) (by omega) (by omega) (by rw [hby]; omega) (by omega)
  rw [hsz, Int.toNat_natCast] at hmk
  clear hi hz hsz hby
  have hs0 := size_madeCells (Value.agg #[.int .i64 0, .int .i64 0, .string ⟨#[]⟩, .slice none 0 0, .slice none 0 0]).cells (l.len * 5)
  generalize madeCells (Value.agg #[.int .i64 0, .int .i64 0, .string ⟨#[]⟩, .slice none 0 0, .slice none 0 0]).cells (l.len * 5) = cs0 at *
  go_enter Tryz.func57, Tryz.ntmps57
  go_wp2_with fail
  go_loopw [4] (fun i w' => ∃ (k : Nat) (cs : Array Value) (pre : List (Oh × Ous)) (rest : Ous), Hid (l.len = k + rest.len) ∧ i = .int .i64 k ∧ Below w.heap.size w w' ∧ Hid (l = appO pre rest ∧ pre.length = k) ∧ Hid (rest.size ≤ l.size) ∧ Hid (OusBd 1048576 rest) ∧ Hid (OuFrom 0 w.heap.size w a k rest) ∧ Hid (w'.heap[w.heap.size]? = some (.cells cs 44 (0, 0))) ∧ cs.size = l.len * 5 ∧ Hid (OuSeq w' (appO pre .nil) cs 0 (w.heap.size + 1) w'.heap.size)) (fun i _ => l.len - (intOf i).toNat)
  case atStart => exact ⟨0, cs0, [], l, by simp [Hid], rfl, (Below.refl _ _).alloc (Nat.le_refl _) _, ⟨rfl, rfl⟩, Nat.le_refl _, HB, HR, heap_alloc_new _ _, hs0, by simp [Hid, appO, OuSeq]⟩
  case round =>
    obtain ⟨wo, rfl⟩ : ∃ x, x = wr := ⟨_, rfl⟩
    obtain ⟨k, cs, pre, rest, HK, rfl, hb, HP, HZ, HD, HF, HH, hcs, HL⟩ := hrel
    clear hmk hs0
    cases rest with
    | nil =>
      have hk' : ¬ k < l.len := by rw [HK.out]; simp only [Ous.len]; omega
      go_wp2_with fail
      go_ret
      refine ⟨_, rfl, ?_, hb⟩
      obtain ⟨hp1, hp2⟩ := HP.out
      refine .inr ⟨w.heap.size, cs, rfl, Nat.le_refl _, (Array.getElem?_eq_some_iff.1 HH.out).1, HH.out, by omega, ?_⟩
      rw [hp1]
      exact HL.out
    | cons h sub rest =>
      have hlt : k < l.len := by rw [HK.out]; simp only [Ous.len]; omega
      have HK2 : Hid (l.len = k + 1 + rest.len) := by rw [Hid, HK.out]; simp only [Ous.len]; omega
      obtain ⟨b, o, a1, c1, a2, c2, ha, _, hbl, d0, d1, d2, d3, d4, hc, r1, r2, _⟩ := OuFrom.step (OuFrom.keep HF.out (agree hb (Nat.le_refl _)))
      have HF2 : Hid (OuFrom 0 w.heap.size w a (k + 1) rest) := by
        obtain ⟨_, _, _, _, _, _, _, _, _, _, _, _, _, _, _, _, _, rf9⟩ := OuFrom.step HF.out
        exact rf9
      subst ha
      have R1 : Hid (KeRow 0 wo.heap.size wo a1 h.keys) := KeRow.wide r1 (Nat.le_refl _) hb.size
      have R2 : Hid (OuRow 0 wo.heap.size wo a2 sub) := OuRow.wide r2 (Nat.le_refl _) hb.size
      obtain ⟨e1, e2, e3, e4⟩ := HD.out
      have E1 : Hid (OhBd 1048576 h) := e1
      have E3 : Hid (OusBd 1048576 sub) := e3
      have E4 : Hid (OusBd 1048576 rest) := e4
      have HZ2 : Hid (rest.size ≤ l.size) := by have := HZ.out; simp only [Ous.size] at this; unfold Hid; omega
      have IS : Hid (ToOusO sub) := IH.out sub (by have := HZ.out; simp only [Ous.size] at this; omega)
      clear r1 r2 e1 e3 e4
      go_wp2_with fail
      refine (to_out_o h sub IS.out a1 a2 c1 c2 _ R1.out R2.out E1.out e2 E3.out).mono ?_
      rintro e w1 ⟨b1, b3, rfl, A1, hb1⟩
      have A1 : Hid (PartsO wo.heap.size w1.heap.size w1 b1 b3 h sub) := A1
      have hN : w.heap.size < wo.heap.size := (Array.getElem?_eq_some_iff.1 HH.out).1
      have HH1 : Hid (w1.heap[w.heap.size]? = some (.cells cs 44 (0, 0))) := (hb1.block _ hN).trans HH.out
      have AG1 : Hid (Agree (w.heap.size + 1) wo.heap.size wo w1) := agree hb1 (Nat.le_refl _)
      obtain ⟨v0, hv0⟩ : ∃ v, w1.cell? ⟨w.heap.size, k * 5, none⟩ = some v := ⟨_, (row_cell HH1.out _).trans (Array.getElem?_eq_getElem (by omega))⟩
      obtain ⟨v1, hv1⟩ : ∃ v, w1.cell? ⟨w.heap.size, k * 5 + 1, none⟩ = some v := ⟨_, (row_cell HH1.out _).trans (Array.getElem?_eq_getElem (by omega))⟩
      obtain ⟨v2, hv2⟩ : ∃ v, w1.cell? ⟨w.heap.size, k * 5 + 2, none⟩ = some v := ⟨_, (row_cell HH1.out _).trans (Array.getElem?_eq_getElem (by omega))⟩
      obtain ⟨v3, hv3⟩ : ∃ v, w1.cell? ⟨w.heap.size, k * 5 + 3, none⟩ = some v := ⟨_, (row_cell HH1.out _).trans (Array.getElem?_eq_getElem (by omega))⟩
      obtain ⟨v4, hv4⟩ : ∃ v, w1.cell? ⟨w.heap.size, k * 5 + 4, none⟩ = some v := ⟨_, (row_cell HH1.out _).trans (Array.getElem?_eq_getElem (by omega))⟩
      have hf0 := row_frozen HH1.out (k * 5)
      have hf1 := row_frozen HH1.out (k * 5 + 1)
      have hf2 := row_frozen HH1.out (k * 5 + 2)
      have hf3 := row_frozen HH1.out (k * 5 + 3)
      have hf4 := row_frozen HH1.out (k * 5 + 4)
      have qb : Hid _ := hb.trans (hb1.mono hb.size)
      have hz1 := hb1.size
      clear d0 d1 d2 d3 d4
      go_wp2_with fail
      have G : ∀ W' : World, W'.heap.size = w1.heap.size → Agree (w.heap.size + 1) w1.heap.size w1 W' → Hid (OuSeq W' (appO (pre ++ [(h, sub)]) .nil) (put5 cs (k * 5) (.int .i64 h.k) (.int .i64 h.n) (.string h.t) (.slice b1 h.keys.length h.keys.length) (.slice b3 sub.len sub.len)) 0 (w.heap.size + 1) W'.heap.size) := by
        intro W' hw ha
        unfold Hid
        rw [hw]
        exact OuSeq.lay (Nat.le_refl _) HP.out.2 (by omega) HL.out (fun g h1 h2 => (ha g h1 (by omega)).trans (AG1.out g h1 h2)) (PartsO.keep A1.out (fun g h1 h2 => ha g (by omega) h2))
      refine ⟨⟨k + 1, _, pre ++ [(h, sub)], rest, HK2, by go_num, ((((qb.out.setCell (Nat.le_refl _) _).setCell (Nat.le_refl _) _).setCell (Nat.le_refl _) _).setCell (Nat.le_refl _) _).setCell (Nat.le_refl _) _, ⟨by rw [appO_snoc]; exact HP.out.1, by simp [HP.out.2]⟩, HZ2, E4, HF2, row_set (row_set (row_set (row_set (row_set HH1.out _ _) _ _) _ _) _ _) _ _, by simp [hcs], ?_⟩, by simp [intOf]; omega⟩
      refine G _ (by simp) ?_
      intro g h1 h2
      repeat rw [heap_set _ _ _ _ _ (by omega)]
end Go.Proofs.YtnkaoeijcdchiaaGreatDoor.G
namespace Go.Proofs.YtnkaoeijcdchiaaGreatDoor.G
open Go.ChangeShapes Go.WideShapes Go.ChangeAt Go.RowKit
set_option linter.unusedVariables false

structure Rn where
  need : Int
  rs : List Int
  ws : List Ve
  h : Oh
  sub : Ous
  es : List ByteArray
/-- Where its lists lie. -/
structure RnA where
  ra : Option Addr
  rc : Nat
  wa : Option Addr
  wc : Nat
  a1 : Option Addr
  c1 : Nat
  a2 : Option Addr
  c2 : Nat
  ea : Option Addr
  ec : Nat
def RunRow (lo hi : Nat) (w : World) (p : RnA) (r : Rn) : Prop := NuRow lo hi w p.ra r.rs ∧ VeRow lo hi w p.wa r.ws ∧ KeRow lo hi w p.a1 r.h.keys ∧ OuRow lo hi w p.a2 r.sub ∧ KeRow lo hi w p.ea r.es
theorem RunRow.up {w w' : World} {p : RnA} {r : Rn} (h : RunRow 0 w.heap.size w p r) (hb : Below w.heap.size w w') : RunRow 0 w'.heap.size w' p r :=
  ⟨NuRow.up h.1 hb, VeRow.up h.2.1 hb, KeRow.up h.2.2.1 hb, OuRow.up h.2.2.2.1 hb, KeRow.up h.2.2.2.2 hb⟩
theorem RunRow.keep {lo hi : Nat} {w w' : World} {p : RnA} {r : Rn} (h : RunRow lo hi w p r) (hk : Agree lo hi w w') : RunRow lo hi w' p r :=
  ⟨NuRow.keep h.1 hk, VeRow.keep h.2.1 hk, KeRow.keep h.2.2.1 hk, OuRow.keep h.2.2.2.1 hk, KeRow.keep h.2.2.2.2 hk⟩
theorem RunRow.wide {lo hi lo' hi' : Nat} {w : World} {p : RnA} {r : Rn} (h : RunRow lo hi w p r) (e1 : lo' ≤ lo) (e2 : hi ≤ hi') : RunRow lo' hi' w p r :=
  ⟨NuRow.wide h.1 e1 e2, VeRow.wide h.2.1 e1 e2, KeRow.wide h.2.2.1 e1 e2, OuRow.wide h.2.2.2.1 e1 e2, KeRow.wide h.2.2.2.2 e1 e2⟩
/-- Bounds. -/
def RnBd (m : Nat) (r : Rn) : Prop := r.rs.length ≤ m ∧ r.ws.length ≤ m ∧ (OhBd m r.h ∧ r.sub.len ≤ m ∧ OusBd m r.sub) ∧ r.es.length ≤ m ∧ ∀ x ∈ r.es, x.size ≤ m
/-- Writes that a call owns. -/
def RwOwn (lo hi : Nat) (w : World) (a : Option Addr) (x : List Ve) : Prop := x = [] ∨ ∃ g, a = some ⟨g, 0, none⟩ ∧ lo ≤ g ∧ g < hi ∧ PuBlk w g x
theorem RwOwn.keep {lo hi : Nat} {w w' : World} {a : Option Addr} {x : List Ve} (h : RwOwn lo hi w a x) (hk : Agree lo hi w w') : RwOwn lo hi w' a x := by
  rcases h with h | ⟨g, e, h1, h2, h3⟩
  · exact .inl h
  · exact .inr ⟨g, e, h1, h2, h3.move (hk g h1 h2)⟩
theorem RwOwn.row {lo hi : Nat} {w : World} {a : Option Addr} {x : List Ve} (h : RwOwn lo hi w a x) : VeRow lo hi w a x := by
  rcases h with h | ⟨g, e, h1, h2, h3⟩
  · exact .inl h
  · rw [e]; exact h3.row h1 h2
/-- A run whose lists are its own, one behind the other. -/
def RunOwn (lo hi : Nat) (w : World) (p : RnA) (r : Rn) : Prop := ∃ m1 m2 m3, lo ≤ m1 ∧ m1 ≤ m2 ∧ m2 ≤ m3 ∧ m3 ≤ hi ∧ NuOwn lo m1 w p.ra r.rs ∧ RwOwn m1 m2 w p.wa r.ws ∧ PartsO m2 m3 w p.a1 p.a2 r.h r.sub ∧ KeOwn m3 hi w p.ea r.es
theorem RunOwn.keep {lo hi : Nat} {w w' : World} {p : RnA} {r : Rn} (h : RunOwn lo hi w p r) (hk : Agree lo hi w w') : RunOwn lo hi w' p r := by
  obtain ⟨m1, m2, m3, e1, e2, e3, e4, h1, h2, h3, h4⟩ := h
  exact ⟨m1, m2, m3, e1, e2, e3, e4, h1.keep fun g a b => hk g (by omega) (by omega), h2.keep fun g a b => hk g (by omega) (by omega), h3.keep fun g a b => hk g (by omega) (by omega), h4.keep fun g a b => hk g (by omega) (by omega)⟩
theorem RunOwn.row {lo hi : Nat} {w : World} {p : RnA} {r : Rn} (h : RunOwn lo hi w p r) : RunRow lo hi w p r := by
  obtain ⟨m1, m2, m3, e1, e2, e3, e4, h1, h2, h3, h4⟩ := h
  exact ⟨NuRow.wide h1.row (by omega) (by omega), VeRow.wide h2.row (by omega) (by omega), KeRow.wide h3.rows.1 (by omega) (by omega), OuRow.wide h3.rows.2 (by omega) (by omega), KeRow.wide (ke_row h4) (by omega) (by omega)⟩
section
variable {H : Type} {enc : TypeId × Value → H} {W : World}
theorem nine {α : Type} {l : List α} (h : l.length = 9) : ∃ a b c d e f g i j, l = [a, b, c, d, e, f, g, i, j] := by
  match l, h with
  | [a, b, c, d, e, f, g, i, j], _ => exact ⟨a, b, c, d, e, f, g, i, j, rfl⟩
theorem run_open {fuel : Nat} {cs : List Value} {x : DataW H × List MemPlace} (h : DataW.trod enc Tryz.prog W 0 (fun _ => true) true fuel 32 cs = some x) :
    ∃ (r : Rn) (p : RnA), cs = [.int .i64 r.need, .slice p.ra r.rs.length p.rc, .slice p.wa r.ws.length p.wc, .int .i64 r.h.k, .int .i64 r.h.n, .string r.h.t, .slice p.a1 r.h.keys.length p.c1, .slice p.a2 r.sub.len p.c2, .slice p.ea r.es.length p.ec] ∧ r.h.keys.length ≤ p.c1 ∧ RnBd maxLen r ∧ RunRow 0 W.heap.size W p r := by
  have ci : Tryz.prog.cellsOf 3 = 1 := by kernel_rfl
  have c1 : Tryz.prog.cellsOf 25 = 1 := by kernel_rfl
  have c2 : Tryz.prog.cellsOf 26 = 1 := by kernel_rfl
  have c3 : Tryz.prog.cellsOf 30 = 5 := by kernel_rfl
  have c4 : Tryz.prog.cellsOf 27 = 1 := by kernel_rfl
  have co : Tryz.prog.cellsOf 32 = 9 := by kernel_rfl
  obtain ⟨xs, n', rfl, rfl, hcl, hxl, hf⟩ := DataW.trod_struct Tryz.underlying32 h
  rw [co] at hcl
  obtain ⟨v0, v1, v2, v3, v4, v5, v6, v7, v8, rfl⟩ := nine hcl
  obtain ⟨y0, y1, y2, y3, y4, rfl⟩ := five hxl
  obtain ⟨k, e0, _, _⟩ := DataW.trod_int Tryz.underlying3 (hf 0 _ rfl)
  obtain ⟨ra, rc, rs, e1, b1, q1⟩ := Nus_open (hf 1 _ rfl)
  obtain ⟨wa, wc, ws, e2, _, b2, q2⟩ := Pus_open (hf 2 _ rfl)
  obtain ⟨oh, sub, a1, a2, d1, d2, e3, hc, b3, b4, b5, q3, q4⟩ := out_open (hf 3 _ rfl)
  obtain ⟨ea, ec, es, e4, _, b6, b7, q5⟩ := keys_open (hf 4 _ rfl)
  simp [ci, c1, c2, c3, c4] at e0 e1 e2 e3 e4
  obtain ⟨g3, g4, g5, g6, g7⟩ := e3
  subst e0 e1 e2 g3 g4 g5 g6 g7 e4
  exact ⟨⟨k, rs, ws, oh, sub, es⟩, ⟨ra, rc, wa, wc, a1, d1, a2, d2, ea, ec⟩, rfl, hc, ⟨b1, b2, ⟨b3, b4, b5⟩, b6, b7⟩, q1, q2, q3, q4, q5⟩
end
end Go.Proofs.YtnkaoeijcdchiaaGreatDoor.G
