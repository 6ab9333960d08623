/- The law's marks written into selections, definitions and a document that the call owns. -/
import Derived.Test.YtgnonbghgcpnoaaDoorDocMark
namespace Go.Proofs.YtgnonbghgcpnoaaDoor
open Go.ChangeShapes Go.WideShapes Go.ChangeAt Go.RowKit
set_option linter.unusedVariables false

def put3 (cs : Array Value) (k : Nat) (v0 v1 v2 : Value) : Array Value := ((cs.setIfInBounds k v0).setIfInBounds (k + 1) v1).setIfInBounds (k + 2) v2
theorem put3_size (cs : Array Value) (k : Nat) (v0 v1 v2 : Value) : (put3 cs k v0 v1 v2).size = cs.size := by simp [put3]
theorem put3_at {cs : Array Value} {k : Nat} {v0 v1 v2 : Value} (h : k + 2 < cs.size) : (put3 cs k v0 v1 v2)[k]? = some v0 ∧ (put3 cs k v0 v1 v2)[k + 1]? = some v1 ∧ (put3 cs k v0 v1 v2)[k + 2]? = some v2 := by
  unfold put3
  refine ⟨?_, ?_, ?_⟩ <;> simp [Array.getElem?_setIfInBounds] <;> omega
theorem put3_ne {cs : Array Value} {k : Nat} {v0 v1 v2 : Value} {j : Nat} (h : j < k ∨ k + 3 ≤ j) : (put3 cs k v0 v1 v2)[j]? = cs[j]? := by
  unfold put3
  rw [Array.getElem?_setIfInBounds_ne (by omega), Array.getElem?_setIfInBounds_ne (by omega), Array.getElem?_setIfInBounds_ne (by omega)]
theorem SelSeq.mark_step {w0 w5 : World} {b m m1 m2 m3 hi n q K : Nat} {cs : Array Value} {pre : List (Hd × Sels)} {h : Hd} {sub rest : Sels} {a3 a4 a5 : Option Addr} {d3 d4 d5 : Nat} {v0 v1 v2 : Value}
    (hlen : pre.length = n) (hcs : n * 6 + 6 ≤ cs.size) (HP : SelSeq w0 (app (mkP K pre) .nil) cs 0 (b + 1) m) (HR : SelSeq w0 rest cs (n * 6 + 6) m3 hi) (e1 : m ≤ m1) (e2 : m1 ≤ m2) (e3 : m2 ≤ m3)
    (p3 : cs[n * 6 + 3]? = some (.slice a3 h.args.length d3)) (p4 : cs[n * 6 + 4]? = some (.slice a4 h.dirs.length d4)) (p5 : cs[n * 6 + 5]? = some (.slice a5 sub.len d5))
    (o3 : ArOwn m m1 w5 a3 (mkAr (q + 3) h.args)) (o4 : DiOwn m1 m2 w5 a4 (mkDi (q + 3 + 4 * h.args.length) h.dirs)) (o5 : SelOwn m2 m3 w5 a5 (mkS (q + cHd h) sub))
    (S : ∀ g, b < g → g < hi → (g < m ∨ m3 ≤ g) → w5.heap[g]? = w0.heap[g]?) (ev0 : v0 = .int .i64 (q : Int)) (ev1 : v1 = .string (G.mkT (q + 1))) (ev2 : v2 = .string (G.mkT (q + 2))) (hq : q = K + cP pre) :
    SelSeq w5 (app (mkP K (pre ++ [(h, sub)])) .nil) (put3 cs (n * 6) v0 v1 v2) 0 (b + 1) m3 ∧ SelSeq w5 rest (put3 cs (n * 6) v0 v1 v2) ((n + 1) * 6) m3 hi := by
  have hm := HP.le
  have hr := HR.le
  subst hlen
  obtain ⟨g0, g1, g2⟩ := put3_at (cs := cs) (k := pre.length * 6) (v0 := v0) (v1 := v1) (v2 := v2) (by omega)
  have gx : ∀ j, j < pre.length * 6 ∨ pre.length * 6 + 3 ≤ j → (put3 cs (pre.length * 6) v0 v1 v2)[j]? = cs[j]? := fun j hj => put3_ne hj
  generalize put3 cs (pre.length * 6) v0 v1 v2 = cs' at *
  constructor
  · rw [mkP_snoc, ← hq]
    refine SelSeq.snoc _ (SelSeq.cells (cs := cs) (SelSeq.keep HP fun g h1 h2 => S g (by omega) (by omega) (.inl h2)) fun j _ hj => gx j ?_) ?_
    · rw [app_len, mkP_len] at hj
      simp only [Sels.len] at hj
      omega
    · rw [mkP_len, show 0 + 6 * pre.length = pre.length * 6 by omega]
      refine ⟨m1, m2, e1, e2, e3, g0.trans (by rw [ev0]; rfl), g1.trans (by rw [ev1]; rfl), g2.trans (by rw [ev2]; rfl), ⟨a3, d3, ?_, o3⟩, ⟨a4, d4, ?_, o4⟩, ⟨a5, d5, ?_, o5⟩⟩
      · rw [gx _ (by omega), p3]; simp only [mkHd, mkAr_len]
      · rw [gx _ (by omega), p4]; simp only [mkHd, mkDi_len]
      · rw [gx _ (by omega), p5, mkS_len]
  · rw [show (pre.length + 1) * 6 = pre.length * 6 + 6 by omega]
    exact SelSeq.cells (cs := cs) (SelSeq.keep HR fun g h1 h2 => S g (by omega) (by omega) (.inr h1)) fun j h1 hj => gx j (by omega)

def MarkSels (l : Sels) : Prop := ∀ (a : Option Addr) (c lo hi K : Nat) (kk : Int) (w : World), kk = (K : Int) → SelOwn lo hi w a l → hi ≤ w.heap.size → 0 < K → ((K + cS l : Nat) : Int) ≤ 4611686018427387904 →
    Calls Tryd.prog 40 #[.slice a l.len c, .int .i64 kk] w fun e w' => ∃ r : Int, e = .returned (.int .i64 r) ∧ r = ((K + cS l : Nat) : Int) ∧ SelOwn lo hi w' a (mkS K l) ∧ KeptR lo hi w w'

set_option maxHeartbeats 4000000 in
set_option maxRecDepth 40000 in
theorem mark_sels (l : Sels) : MarkSels l := by
  induction hN : l.size using Nat.strongRecOn generalizing l with
  | _ N ih =>
  subst hN
  intro a c lo hi K kk w hkk ho hhi hk hb
  have IH : Hid (∀ sub : Sels, sub.size < l.size → MarkSels sub) := fun sub hsub => ih sub.size hsub sub rfl
  clear ih
  subst hkk
  rcases ho with rfl | ⟨b, ds, rfl, f1, f2, f3, f4, f5⟩
  · simp only [Sels.len]
    go_enter Tryd.func40, Tryd.ntmps40
    go_wp2_with fail
    go_loopw [1, 5] (fun s i w' => s = .int .i64 (K : Int) ∧ i = .int .i64 0 ∧ w' = w) (fun _ _ _ => 0)
    case atStart => exact ⟨rfl, rfl, rfl⟩
    case round =>
      obtain ⟨rfl, rfl, rfl⟩ := hrel
      go_wp2_with fail
      go_ret
      exact ⟨_, rfl, by simp [cS], .inl rfl, KeptR.refl _ _ _⟩
  have hl9 : (l.len : Int) ≤ 4611686018427387904 := by have := len_cS l; omega
  have HB : Hid _ := hb
  have F3 : Hid _ := f3
  have F4 : Hid _ := f4
  have F5 : Hid _ := f5
  clear f3 f4 f5 hb
  go_enter Tryd.func40, Tryd.ntmps40
  go_wp2_with fail
  go_loopw [1, 5] (fun s i w' => ∃ (n q m : Nat) (cs : Array Value) (pre : List (Hd × Sels)) (rest : Sels), Hid (l.len = n + rest.len) ∧ i = .int .i64 n ∧ s = .int .i64 (q : Int) ∧ Hid (l = app pre rest ∧ pre.length = n) ∧ Hid (rest.size ≤ l.size) ∧ Hid (q = K + cP pre) ∧ 0 < q ∧ Hid (w'.heap[b]? = some (.cells cs 98 (0, 0))) ∧ Hid (l.len * 6 ≤ cs.size) ∧ Hid (SelSeq w' (app (mkP K pre) .nil) cs 0 (b + 1) m) ∧ Hid (SelSeq w' rest cs (n * 6) m hi) ∧ Hid (KeptR lo hi w w')) (fun _ i _ => l.len - (intOf i).toNat)
  case atStart => exact ⟨0, K, b + 1, ds, [], l, by simp [Hid], rfl, rfl, ⟨rfl, rfl⟩, Nat.le_refl _, by simp [Hid, cP], hk, F3, F4, Nat.le_refl _, by rw [Nat.zero_mul]; exact F5, KeptR.refl _ _ _⟩
  case round =>
    obtain ⟨n, q, m, cs, pre, rest, HN, rfl, rfl, HP, HZ, HQ, hq0, H0, HC, HS, HR, HK⟩ := hrel
    cases rest with
    | nil =>
      have hk' : ¬ n < l.len := by rw [HN.out]; simp only [Sels.len]; omega
      have HE : Hid ((q : Int) = ((K + cS l : Nat) : Int) ∧ SelOwn lo hi wr (some ⟨b, 0, none⟩) (mkS K l)) := by
        obtain ⟨hp1, hp2⟩ := HP.out
        have hq := HQ.out
        refine ⟨by rw [hp1, cS_app]; simp only [cS]; omega, .inr ⟨b, cs, rfl, f1, f2, H0.out, by rw [mkS_len]; exact HC.out, ?_⟩⟩
        rw [hp1, mkS_app]
        exact SelSeq.widen HS.out HR.out
      clear HS HR HP HQ
      go_wp2_with fail
      go_ret
      exact ⟨_, rfl, HE.out.1, HE.out.2, HK.out⟩
    | cons h sub rest =>
      have hlt : n < l.len := by rw [HN.out]; simp only [Sels.len]; omega
      have HN2 : Hid (l.len = n + 1 + rest.len) := by rw [Hid, HN.out]; simp only [Sels.len]; omega
      obtain ⟨m3, ⟨m1, m2, e1, e2, e3, c0, c1, c2, ⟨a3, d3, p3, q3⟩, ⟨a4, d4, p4, q4⟩, ⟨a5, d5, p5, q5⟩⟩, hrest⟩ := SelSeq.uncons HR.out
      have hbm := SelSeq.le HS.out
      have hm3 := SelSeq.le hrest
      have hz0 : hi ≤ wr.heap.size := by have := HK.out.size; omega
      have hcs := HC.out
      have hcs2 : n * 6 + 6 ≤ cs.size := by omega
      have hq4 : (q : Int) + ((cHd h + cS sub : Nat) : Int) ≤ 4611686018427387904 := by
        have h1 := HB.out
        rw [HP.out.1, cS_app] at h1
        simp only [cS] at h1
        have h2 := HQ.out
        omega
      have hch : cHd h = 3 + 4 * h.args.length + 4 * h.dirs.length := rfl
      have HZ2 : Hid (rest.size ≤ l.size) := by have := HZ.out; simp only [Sels.size] at this; unfold Hid; omega
      have IS : Hid (MarkSels sub) := IH.out sub (by have := HZ.out; simp only [Sels.size] at this; omega)
      have P3 : Hid _ := p3
      have P4 : Hid _ := p4
      have P5 : Hid _ := p5
      have Q3 : Hid (ArOwn m m1 wr a3 h.args) := q3
      have Q4 : Hid (DiOwn m1 m2 wr a4 h.dirs) := q4
      have Q5 : Hid (SelOwn m2 m3 wr a5 sub) := q5
      have HRE : Hid _ := hrest
      obtain ⟨w0, rfl⟩ : ∃ x, x = wr := ⟨_, rfl⟩
      obtain ⟨u0, hv0⟩ : ∃ v, w0.cell? ⟨b, n * 6, none⟩ = some v := ⟨_, (row_cell H0.out _).trans (Array.getElem?_eq_getElem (by omega))⟩
      have hf0 := row_frozen H0.out (n * 6)
      clear c0 c1 c2 p3 p4 p5 q3 q4 q5 hrest HR hcs
      go_wp2_with fail
      refine (G.mark_text_int _ _ (by omega) (by omega)).mono ?_
      rintro e w1 ⟨rfl, hb1⟩
      have z1 : w0.heap.size ≤ w1.heap.size := by have := hb1.size; simpa using this
      have H1 : Hid (w1.heap[b]? = _) := (hb1.block _ (by simp; omega)).trans (row_set H0.out (n * 6) _)
      have S1 : Hid (∀ g, b < g → g < w0.heap.size → w1.heap[g]? = w0.heap[g]?) := fun g h1 h2 => (hb1.block g (by simpa using h2)).trans (heap_set _ _ _ _ _ (by omega))
      have K1 : Hid (KeptR lo hi w w1) := (HK.out.set (p := ⟨b, n * 6, none⟩) f1 f2 _).trans (KeptR.of hb1)
      obtain ⟨u1, hv1⟩ : ∃ v, w1.cell? ⟨b, n * 6 + 1, none⟩ = some v := ⟨_, (row_cell H1.out _).trans (Array.getElem?_eq_getElem (by simp; omega))⟩
      have hf1 := row_frozen H1.out (n * 6 + 1)
      clear hb1 hv0 hf0
      go_wp2_with fail
      refine (G.mark_text_int _ _ (by omega) (by omega)).mono ?_
      rintro e w2 ⟨rfl, hb2⟩
      have z2 : w1.heap.size ≤ w2.heap.size := by have := hb2.size; simpa using this
      have H2 : Hid (w2.heap[b]? = _) := (hb2.block _ (by simp; omega)).trans (row_set H1.out (n * 6 + 1) _)
      have S2 : Hid (∀ g, b < g → g < w0.heap.size → w2.heap[g]? = w0.heap[g]?) := fun g h1 h2 => ((hb2.block g (by simp; omega)).trans (heap_set _ _ _ _ _ (by omega))).trans (S1.out g h1 h2)
      have K2 : Hid (KeptR lo hi w w2) := (K1.out.set (p := ⟨b, n * 6 + 1, none⟩) f1 f2 _).trans (KeptR.of hb2)
      obtain ⟨u2, hv2⟩ : ∃ v, w2.cell? ⟨b, n * 6 + 2, none⟩ = some v := ⟨_, (row_cell H2.out _).trans (Array.getElem?_eq_getElem (by simp; omega))⟩
      have hf2 := row_frozen H2.out (n * 6 + 2)
      have hv3 : w2.cell? ⟨b, n * 6 + 3, none⟩ = some (.slice a3 h.args.length d3) := (row_cell H2.out _).trans (by rw [Array.getElem?_setIfInBounds_ne (by omega), Array.getElem?_setIfInBounds_ne (by omega)]; exact P3.out)
      clear hb2 hv1 hf1
      go_wp2_with fail
      refine Calls.mono (mark_args a3 d3 h.args m m1 (q + 3) _ _ (by omega) (OwnR.keep Q3.out ?own) (by simp; omega) (by omega) (by omega)) ?_
      case own =>
        intro g h1 h2
        rw [heap_set _ _ _ _ _ (by omega)]
        exact S2.out g (by omega) (by omega)
      rintro e w3 ⟨r3, rfl, hr3, own3, kept3⟩
      have z3 : w2.heap.size ≤ w3.heap.size := by have := kept3.size; simpa using this
      have O3 : Hid (ArOwn m m1 w3 a3 (mkAr (q + 3) h.args)) := own3
      have H3 : Hid (w3.heap[b]? = _) := (kept3.block b (by simp; omega) (.inl (by omega))).trans (row_set H2.out (n * 6 + 2) _)
      have S3 : Hid (∀ g, b < g → g < w0.heap.size → (g < m ∨ m1 ≤ g) → w3.heap[g]? = w0.heap[g]?) := fun g h1 h2 h3 => ((kept3.block g (by simp; omega) h3).trans (heap_set _ _ _ _ _ (by omega))).trans (S2.out g h1 h2)
      have K3 : Hid (KeptR lo hi w w3) := (K2.out.set (p := ⟨b, n * 6 + 2, none⟩) f1 f2 _).trans (kept3.mono (by omega) (by omega))
      have hv4 : w3.cell? ⟨b, n * 6 + 4, none⟩ = some (.slice a4 h.dirs.length d4) := (row_cell H3.out _).trans (by rw [Array.getElem?_setIfInBounds_ne (by omega), Array.getElem?_setIfInBounds_ne (by omega), Array.getElem?_setIfInBounds_ne (by omega)]; exact P4.out)
      clear own3 kept3 hv2 hf2 hv3
      go_wp2_with fail
      refine Calls.mono (mark_dirs a4 d4 h.dirs m1 m2 (q + 3 + 4 * h.args.length) _ _ (by omega) (OwnR.keep Q4.out ?own) (by omega) (by omega) (by omega)) ?_
      case own =>
        intro g h1 h2
        exact S3.out g (by omega) (by omega) (.inr h1)
      rintro e w4 ⟨r4, rfl, hr4, own4, kept4⟩
      have z4 := kept4.size
      have O4 : Hid (DiOwn m1 m2 w4 a4 (mkDi (q + 3 + 4 * h.args.length) h.dirs)) := own4
      have O3' : Hid (ArOwn m m1 w4 a3 (mkAr (q + 3) h.args)) := OwnR.keep O3.out fun g h1 h2 => kept4.block g (by omega) (.inl h2)
      have H4 : Hid (w4.heap[b]? = _) := (kept4.block b (by omega) (.inl (by omega))).trans H3.out
      have S4 : Hid (∀ g, b < g → g < w0.heap.size → (g < m ∨ m2 ≤ g) → w4.heap[g]? = w0.heap[g]?) := fun g h1 h2 h3 => (kept4.block g (by omega) (by omega)).trans (S3.out g h1 h2 (by omega))
      have K4 : Hid (KeptR lo hi w w4) := K3.out.trans (kept4.mono (by omega) (by omega))
      have hv5 : w4.cell? ⟨b, n * 6 + 5, none⟩ = some (.slice a5 sub.len d5) := (row_cell H4.out _).trans (by rw [Array.getElem?_setIfInBounds_ne (by omega), Array.getElem?_setIfInBounds_ne (by omega), Array.getElem?_setIfInBounds_ne (by omega)]; exact P5.out)
      clear own4 kept4 hv4 O3 H3
      go_wp2_with fail
      refine Calls.mono (IS.out a5 d5 m2 m3 (q + cHd h) _ _ (by omega) (SelOwn.keep Q5.out ?own) (by omega) (by omega) (by omega)) ?_
      case own =>
        intro g h1 h2
        exact S4.out g (by omega) (by omega) (.inr h1)
      rintro e w5 ⟨r5, rfl, hr5, own5, kept5⟩
      have z5 := kept5.size
      have O5 : Hid (SelOwn m2 m3 w5 a5 (mkS (q + cHd h) sub)) := own5
      have O3'' : Hid (ArOwn m m1 w5 a3 (mkAr (q + 3) h.args)) := OwnR.keep O3'.out fun g h1 h2 => kept5.block g (by omega) (.inl (by omega))
      have O4' : Hid (DiOwn m1 m2 w5 a4 (mkDi (q + 3 + 4 * h.args.length) h.dirs)) := OwnR.keep O4.out fun g h1 h2 => kept5.block g (by omega) (.inl (by omega))
      have H5 : Hid (w5.heap[b]? = _) := (kept5.block b (by omega) (.inl (by omega))).trans H4.out
      have S5 : Hid (∀ g, b < g → g < hi → (g < m ∨ m3 ≤ g) → w5.heap[g]? = w0.heap[g]?) := fun g h1 h2 h3 => (kept5.block g (by omega) (by omega)).trans (S4.out g h1 (by omega) (by omega))
      have K5 : Hid (KeptR lo hi w w5) := K4.out.trans (kept5.mono (by omega) (by omega))
      have HQ2 : Hid (q + cHd h + cS sub = K + cP (pre ++ [(h, sub)])) := by have := HQ.out; rw [Hid, cP_snoc]; omega
      clear own5 kept5 hv5 O3' O4 H4
      go_wp2_with fail
      have HG := SelSeq.mark_step (K := K) (q := q) (h := h) (sub := sub) HP.out.2 hcs2 HS.out HRE.out e1 e2 e3 P3.out P4.out P5.out O3''.out O4'.out O5.out S5.out rfl rfl rfl HQ.out
      refine ⟨⟨n + 1, q + cHd h + cS sub, m3, _, pre ++ [(h, sub)], rest, HN2, by go_num, ?_, ⟨by rw [app_snoc]; exact HP.out.1, by simp [HP.out.2]⟩, HZ2, HQ2, by omega, H5, ?_, HG.1, HG.2, K5⟩, by simp [intOf]; omega⟩
      · exact val_int (by omega)
      · unfold Hid; simp only [Array.size_setIfInBounds]; exact HC.out

set_option maxHeartbeats 4000000 in
set_option maxRecDepth 40000 in
theorem mark_defs (a : Option Addr) (c : Nat) (l : List De) (lo hi K : Nat) (kk : Int) (w : World) (hkk : kk = (K : Int)) (ho : DeOwn lo hi w a l) (hhi : hi ≤ w.heap.size) (hk : 0 < K) (hb : ((K + G.cnt cDe l : Nat) : Int) ≤ 4611686018427387904) :
    Calls Tryd.prog 27 #[.slice a l.length c, .int .i64 kk] w fun e w' => ∃ r : Int, e = .returned (.int .i64 r) ∧ (0 < r ∧ r ≤ ((K + G.cnt cDe l : Nat) : Int)) ∧ KeptR lo hi w w' := by
  subst hkk
  rcases ho with rfl | ⟨b, ds, rfl, f1, f2, f3, f4, f5⟩
  · simp only [List.length_nil]
    go_enter Tryd.func27, Tryd.ntmps27
    go_wp2_with fail
    go_loopw [1, 5] (fun s i w' => s = .int .i64 (K : Int) ∧ i = .int .i64 0 ∧ w' = w) (fun _ _ _ => 0)
    case atStart => exact ⟨rfl, rfl, rfl⟩
    case round =>
      obtain ⟨rfl, rfl, rfl⟩ := hrel
      go_wp2_with fail
      go_ret
      exact ⟨_, rfl, ⟨by omega, by simp [G.cnt]⟩, KeptR.refl _ _ _⟩
  have hl9 : (l.length : Int) ≤ 4611686018427387904 := by
    have : ∀ r : List De, r.length ≤ G.cnt cDe r := fun r => by
      induction r with
      | nil => exact Nat.le_refl _
      | cons x r ih => simp only [List.length_cons, G.cnt, cDe]; omega
    have := this l
    omega
  have HB : Hid _ := hb
  have F3 : Hid _ := f3
  have F5 : Hid _ := f5
  clear f3 f5 hb
  go_enter Tryd.func27, Tryd.ntmps27
  go_wp2_with fail
  go_loopw [1, 5] (fun s i w' => ∃ (n q m : Nat) (cs : Array Value), n ≤ l.length ∧ i = .int .i64 n ∧ s = .int .i64 (q : Int) ∧ Hid (q = K + G.cnt cDe (l.take n)) ∧ 0 < q ∧ b < m ∧ Hid (w'.heap[b]? = some (.cells cs 76 (0, 0))) ∧ Hid (l.length * 4 ≤ cs.size) ∧ Hid (DeSeq w' (l.drop n) cs (n * 4) m hi) ∧ Hid (KeptR lo hi w w')) (fun _ i _ => l.length - (intOf i).toNat)
  case atStart => exact ⟨0, K, b + 1, ds, by omega, rfl, rfl, by simp [Hid, G.cnt], hk, by omega, F3, f4, by rw [Nat.zero_mul]; exact F5, KeptR.refl _ _ _⟩
  case round =>
    obtain ⟨n, q, m, cs, hn1, rfl, rfl, HQ, hq0, hbm, H0, HC, HR, HK⟩ := hrel
    by_cases hlt : n < l.length
    case neg =>
      clear HR
      go_wp2_with fail
      go_ret
      exact ⟨_, rfl, ⟨by omega, by have h1 := HQ.out; have h2 := G.cnt_le cDe l n; omega⟩, HK.out⟩
    have hrd := HR.out
    rw [List.drop_eq_getElem_cons hlt] at hrd
    obtain ⟨m3, e1, ⟨c0, c1, c2, a5, d5, p5, q5⟩, hrest⟩ := hrd
    have hm3 := DeSeq.le hrest
    have hz0 : hi ≤ wr.heap.size := by have := HK.out.size; omega
    have hcs := HC.out
    have hcs2 : n * 4 + 4 ≤ cs.size := by omega
    have hc1 := G.cnt_take cDe hlt
    have HQ2 : Hid (q + 3 + cS l[n].sels = K + G.cnt cDe (l.take (n + 1))) := by have := HQ.out; rw [Hid, hc1, cDe]; omega
    have hq4 : (q : Int) + ((3 + cS l[n].sels : Nat) : Int) ≤ 4611686018427387904 := by
      have h1 := HB.out
      have h2 := HQ2.out
      have h3 := G.cnt_le cDe l (n + 1)
      omega
    have P5 : Hid _ := p5
    have Q5 : Hid (SelOwn m m3 wr a5 l[n].sels) := q5
    have HRE : Hid _ := hrest
    obtain ⟨w0, rfl⟩ : ∃ x, x = wr := ⟨_, rfl⟩
    obtain ⟨u0, hv0⟩ : ∃ v, w0.cell? ⟨b, n * 4, none⟩ = some v := ⟨_, (row_cell H0.out _).trans (Array.getElem?_eq_getElem (by omega))⟩
    have hf0 := row_frozen H0.out (n * 4)
    clear c0 c1 c2 p5 q5 hrest HR hcs hc1
    go_wp2_with fail
    refine (G.mark_text_int _ _ (by omega) (by omega)).mono ?_
    rintro e w1 ⟨rfl, hb1⟩
    have z1 : w0.heap.size ≤ w1.heap.size := by have := hb1.size; simpa using this
    have H1 : Hid (w1.heap[b]? = _) := (hb1.block _ (by simp; omega)).trans (row_set H0.out (n * 4) _)
    have S1 : Hid (∀ g, b < g → g < w0.heap.size → w1.heap[g]? = w0.heap[g]?) := fun g h1 h2 => (hb1.block g (by simpa using h2)).trans (heap_set _ _ _ _ _ (by omega))
    have K1 : Hid (KeptR lo hi w w1) := (HK.out.set (p := ⟨b, n * 4, none⟩) f1 f2 _).trans (KeptR.of hb1)
    obtain ⟨u1, hv1⟩ : ∃ v, w1.cell? ⟨b, n * 4 + 1, none⟩ = some v := ⟨_, (row_cell H1.out _).trans (Array.getElem?_eq_getElem (by simp; omega))⟩
    have hf1 := row_frozen H1.out (n * 4 + 1)
    clear hb1 hv0 hf0
    go_wp2_with fail
    refine (G.mark_text_int _ _ (by omega) (by omega)).mono ?_
    rintro e w2 ⟨rfl, hb2⟩
    have z2 : w1.heap.size ≤ w2.heap.size := by have := hb2.size; simpa using this
    have H2 : Hid (w2.heap[b]? = _) := (hb2.block _ (by simp; omega)).trans (row_set H1.out (n * 4 + 1) _)
    have S2 : Hid (∀ g, b < g → g < w0.heap.size → w2.heap[g]? = w0.heap[g]?) := fun g h1 h2 => ((hb2.block g (by simp; omega)).trans (heap_set _ _ _ _ _ (by omega))).trans (S1.out g h1 h2)
    have K2 : Hid (KeptR lo hi w w2) := (K1.out.set (p := ⟨b, n * 4 + 1, none⟩) f1 f2 _).trans (KeptR.of hb2)
    obtain ⟨u2, hv2⟩ : ∃ v, w2.cell? ⟨b, n * 4 + 2, none⟩ = some v := ⟨_, (row_cell H2.out _).trans (Array.getElem?_eq_getElem (by simp; omega))⟩
    have hf2 := row_frozen H2.out (n * 4 + 2)
    have hv3 : w2.cell? ⟨b, n * 4 + 3, none⟩ = some (.slice a5 l[n].sels.len d5) := (row_cell H2.out _).trans (by rw [Array.getElem?_setIfInBounds_ne (by omega), Array.getElem?_setIfInBounds_ne (by omega)]; exact P5.out)
    clear hb2 hv1 hf1
    go_wp2_with fail
    refine Calls.mono (mark_sels l[n].sels a5 d5 m m3 (q + 3) _ _ (by omega) (SelOwn.keep Q5.out ?own) (by simp; omega) (by omega) (by omega)) ?_
    case own =>
      intro g h1 h2
      rw [heap_set _ _ _ _ _ (by omega)]
      exact S2.out g (by omega) (by omega)
    rintro e w3 ⟨r3, rfl, hr3, own3, kept3⟩
    have H3 : Hid (w3.heap[b]? = _) := (kept3.block b (by simp; omega) (.inl (by omega))).trans (row_set H2.out (n * 4 + 2) _)
    have K3 : Hid (KeptR lo hi w w3) := (K2.out.set (p := ⟨b, n * 4 + 2, none⟩) f1 f2 _).trans (kept3.mono (by omega) (by omega))
    have HR3 : Hid (DeSeq w3 (l.drop (n + 1)) (put3 cs (n * 4) (.int .i64 (q : Int)) (.string (G.mkT (q + 1))) (.string (G.mkT (q + 2)))) ((n + 1) * 4) m3 hi) := by
      unfold Hid
      rw [show (n + 1) * 4 = n * 4 + 4 by omega]
      refine DeSeq.cells (cs := cs) (DeSeq.keep HRE.out fun g h1 h2 => ?_) fun j h1 hj => put3_ne (by omega)
      exact ((kept3.block g (by simp; omega) (.inr h1)).trans (heap_set _ _ _ _ _ (by omega))).trans (S2.out g (by omega) (by omega))
    clear own3 kept3 hv2 hf2 hv3
    go_wp2_with fail
    refine ⟨⟨n + 1, q + 3 + cS l[n].sels, m3, _, by omega, by go_num, ?_, HQ2, by omega, by omega, H3, ?_, HR3, K3⟩, by simp [intOf]; omega⟩
    · exact val_int (by omega)
    · unfold Hid; simp only [Array.size_setIfInBounds]; exact HC.out

end Go.Proofs.YtgnonbghgcpnoaaDoor
