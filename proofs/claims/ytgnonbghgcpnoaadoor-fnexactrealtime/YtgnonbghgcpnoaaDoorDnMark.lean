/- The law's marks written into those that are done: nothing but what they own turns. -/
import Derived.Test.YtgnonbghgcpnoaaDoorDnRows
namespace Go.Proofs.YtgnonbghgcpnoaaDoor
open Go.ChangeShapes Go.WideShapes Go.ChangeAt Go.RowKit
set_option linter.unusedVariables false

set_option maxHeartbeats 8000000 in
set_option maxRecDepth 40000 in
theorem mark_dones (a : Option Addr) (c : Nat) (l : List Dn) (lo hi : Nat) (w : World) (ho : DnOwn lo hi w a l) (hhi : hi ≤ w.heap.size) (hbd : DnsBd l) :
    Calls Tryd.prog 12 #[.slice a l.length c, .int .i64 1] w fun e w' => ∃ r : Int, e = .returned (.int .i64 r) ∧ 0 < r ∧ KeptR lo hi w w' := by
  obtain ⟨hl, ht⟩ := hbd
  have HT : Hid (∀ x ∈ l, DnBd x) := ht
  clear ht
  rcases ho with rfl | ⟨b, ds, rfl, f1, f2, f3, f4, f5⟩
  · simp only [List.length_nil]
    go_enter Tryd.func12, Tryd.ntmps12
    go_wp2_with fail
    go_loopw [1, 5] (fun s i w' => s = .int .i64 1 ∧ i = .int .i64 0 ∧ w' = w) (fun _ _ _ => 0)
    case atStart => exact ⟨rfl, rfl, rfl⟩
    case round =>
      obtain ⟨rfl, rfl, rfl⟩ := hrel
      go_wp2_with fail
      go_ret
      exact ⟨1, rfl, by omega, KeptR.refl _ _ _⟩
  have F3 : Hid _ := f3
  have F5 : Hid _ := f5
  clear f3 f5
  go_enter Tryd.func12, Tryd.ntmps12
  go_wp2_with fail
  go_loopw [1, 5] (fun s i w' => ∃ (n q m : Nat) (cs : Array Value), n ≤ l.length ∧ i = .int .i64 n ∧ s = .int .i64 (q : Int) ∧ Hid (q ≤ 1 + n * 8388620) ∧ 0 < q ∧ b < m ∧ Hid (w'.heap[b]? = some (.cells cs 54 (0, 0))) ∧ Hid (l.length * 8 ≤ cs.size) ∧ Hid (DnSeq w' (l.drop n) cs (n * 8) m hi) ∧ Hid (KeptR lo hi w w')) (fun _ i _ => l.length - (intOf i).toNat)
  case atStart => exact ⟨0, 1, b + 1, ds, by omega, rfl, rfl, by simp [Hid], by omega, by omega, F3, f4, by rw [Nat.zero_mul]; exact F5, KeptR.refl _ _ _⟩
  case round =>
    obtain ⟨n, q, m, cs, hn1, rfl, rfl, HQ, hq0, hbm, H0, HC, HR, HK⟩ := hrel
    by_cases hlt : n < l.length
    case neg =>
      clear HR
      go_wp2_with fail
      go_ret
      exact ⟨_, rfl, by omega, HK.out⟩
    have hrd := HR.out
    rw [List.drop_eq_getElem_cons hlt] at hrd
    obtain ⟨m3, ⟨a5, d5, a6, d6, c0, c1, c2, c3, c4, p5, p6, c7, m2, e1, e2, o5, o6⟩, hrest⟩ := hrd
    have hm3 := DnSeq.le hrest
    have hz0 : hi ≤ wr.heap.size := by have := HK.out.size; omega
    have hcs := HC.out
    have hcs2 : n * 8 + 8 ≤ cs.size := by omega
    have hX := HT.out l[n] (List.getElem_mem hlt)
    have hcd : G.cnt cDe l[n].defs ≤ 4194304 := by have := cnt_wt l[n].defs; have := hX.1.2; omega
    have hvl : l[n].vars.length ≤ 1048576 := hX.1.1.2.1
    have hq4 : (q : Int) ≤ 8796101411840 := by have := HQ.out; omega
    have P5 : Hid _ := p5
    have P6 : Hid _ := p6
    have O5 : Hid (DeOwn m m2 wr a5 l[n].defs) := o5
    have O6 : Hid (BnOwn m2 m3 wr a6 l[n].vars) := o6
    have HRE : Hid _ := hrest
    obtain ⟨w0, rfl⟩ : ∃ x, x = wr := ⟨_, rfl⟩
    obtain ⟨u0, hv0⟩ : ∃ v, w0.cell? ⟨b, n * 8, none⟩ = some v := ⟨_, (row_cell H0.out _).trans (Array.getElem?_eq_getElem (by omega))⟩
    have hf0 := row_frozen H0.out (n * 8)
    obtain ⟨u1, hv1⟩ : ∃ v, w0.cell? ⟨b, n * 8 + 1, none⟩ = some v := ⟨_, (row_cell H0.out _).trans (Array.getElem?_eq_getElem (by omega))⟩
    have hf1 := row_frozen H0.out (n * 8 + 1)
    obtain ⟨u2, hv2⟩ : ∃ v, w0.cell? ⟨b, n * 8 + 2, none⟩ = some v := ⟨_, (row_cell H0.out _).trans (Array.getElem?_eq_getElem (by omega))⟩
    have hf2 := row_frozen H0.out (n * 8 + 2)
    obtain ⟨u3, hv3⟩ : ∃ v, w0.cell? ⟨b, n * 8 + 3, none⟩ = some v := ⟨_, (row_cell H0.out _).trans (Array.getElem?_eq_getElem (by omega))⟩
    have hf3 := row_frozen H0.out (n * 8 + 3)
    obtain ⟨u4, hv4⟩ : ∃ v, w0.cell? ⟨b, n * 8 + 4, none⟩ = some v := ⟨_, (row_cell H0.out _).trans (Array.getElem?_eq_getElem (by omega))⟩
    have hf4 := row_frozen H0.out (n * 8 + 4)
    have hv5 : w0.cell? ⟨b, n * 8 + 5, none⟩ = some (.slice a5 l[n].defs.length d5) := (row_cell H0.out _).trans P5.out
    clear c0 c1 c2 c3 c4 c7 p5 p6 o5 o6 hrest HR hcs hX
    go_wp2_with fail
    refine Calls.mono (mark_defs a5 d5 l[n].defs m m2 (q + 5) _ _ (by omega) (DeOwn.keep O5.out ?own) (by simp; omega) (by omega) (by omega)) ?_
    case own =>
      intro g h1 h2
      repeat rw [heap_set _ _ _ _ _ (by omega)]
    rintro e w3 ⟨r3, rfl, hr3, kept3⟩
    obtain ⟨k3, rfl⟩ : ∃ k : Nat, r3 = (k : Int) := ⟨r3.toNat, by omega⟩
    have z3 : w0.heap.size ≤ w3.heap.size := by have := kept3.size; simpa using this
    have H3 : Hid (w3.heap[b]? = _) := (kept3.block b (by simp; omega) (.inl (by omega))).trans (row_set (row_set (row_set (row_set (row_set H0.out (n * 8) _) (n * 8 + 1) _) (n * 8 + 2) _) (n * 8 + 3) _) (n * 8 + 4) _)
    have S3 : Hid (∀ g, b < g → g < w0.heap.size → (g < m ∨ m2 ≤ g) → w3.heap[g]? = w0.heap[g]?) := fun g h1 h2 h3 => (kept3.block g (by simp; omega) h3).trans (by repeat rw [heap_set _ _ _ _ _ (by omega)])
    have K3 : Hid (KeptR lo hi w w3) := (((((HK.out.set (p := ⟨b, n * 8, none⟩) f1 f2 _).set (p := ⟨b, n * 8 + 1, none⟩) f1 f2 _).set (p := ⟨b, n * 8 + 2, none⟩) f1 f2 _).set (p := ⟨b, n * 8 + 3, none⟩) f1 f2 _).set (p := ⟨b, n * 8 + 4, none⟩) f1 f2 _).trans (kept3.mono (by omega) (by omega))
    have hv6 : w3.cell? ⟨b, n * 8 + 6, none⟩ = some (.slice a6 l[n].vars.length d6) := by
      refine (row_cell H3.out _).trans ?_
      repeat rw [Array.getElem?_setIfInBounds_ne (by omega)]
      exact P6.out
    have hk3 : k3 ≤ q + 4194309 := by omega
    have hk3p : 0 < k3 := by omega
    clear kept3 hr3 hv0 hv1 hv2 hv3 hv4 hv5 hf0 hf1 hf2 hf3 hf4
    go_wp2_with fail
    refine Calls.mono (mark_binds a6 d6 l[n].vars m2 m3 k3 _ _ rfl (OwnR.keep O6.out fun g h1 h2 => S3.out g (by omega) (by omega) (.inr h1)) (by omega) hk3p (by omega)) ?_
    rintro e w4 ⟨r4, rfl, hr4, _, kept4⟩
    obtain ⟨k4, rfl⟩ : ∃ k : Nat, r4 = (k : Int) := ⟨r4.toNat, by omega⟩
    have hk4 : k4 ≤ q + 8388613 := by omega
    have hk4p : 0 < k4 := by omega
    have z4 : w3.heap.size ≤ w4.heap.size := kept4.size
    have H4 : Hid (w4.heap[b]? = _) := (kept4.block b (by omega) (.inl (by omega))).trans H3.out
    have S4 : Hid (∀ g, b < g → g < w0.heap.size → m3 ≤ g → w4.heap[g]? = w0.heap[g]?) := fun g h1 h2 h3 => (kept4.block g (by omega) (.inr h3)).trans (S3.out g h1 h2 (.inr (by omega)))
    have K4 : Hid (KeptR lo hi w w4) := K3.out.trans (kept4.mono (by omega) (by omega))
    clear kept4 hr4 hv6 hk3 hk3p H3 S3 K3
    go_wp2_with fail
    refine (G.mark_text_int _ _ (by omega) (by omega)).mono ?_
    rintro e w5 ⟨rfl, hb5⟩
    have z5 : w4.heap.size ≤ w5.heap.size := by have := hb5.size; simpa using this
    have H5 : Hid (w5.heap[b]? = _) := (hb5.block _ (by omega)).trans H4.out
    have S5 : Hid (∀ g, b < g → g < w0.heap.size → m3 ≤ g → w5.heap[g]? = w0.heap[g]?) := fun g h1 h2 h3 => (hb5.block g (by omega)).trans (S4.out g h1 h2 h3)
    have K5 : Hid (KeptR lo hi w w5) := K4.out.trans (KeptR.of hb5)
    obtain ⟨u7, hv7⟩ : ∃ v, w5.cell? ⟨b, n * 8 + 7, none⟩ = some v := ⟨_, (row_cell H5.out _).trans (Array.getElem?_eq_getElem (by simp; omega))⟩
    have hf7 := row_frozen H5.out (n * 8 + 7)
    clear hb5 H4 S4 K4
    go_wp2_with fail
    refine ⟨⟨n + 1, k4 + 1, m3, _, by omega, by go_num, val_int (by omega), by have := HQ.out; unfold Hid; omega, by omega, by omega, row_set H5.out (n * 8 + 7) _, ?_, ?_, K5.out.set (p := ⟨b, n * 8 + 7, none⟩) f1 f2 _⟩, by simp [intOf]; omega⟩
    · unfold Hid; simp only [Array.size_setIfInBounds]; exact HC.out
    · unfold Hid
      rw [show (n + 1) * 8 = n * 8 + 8 by omega]
      refine DnSeq.cells (cs := cs) (DnSeq.keep HRE.out fun g h1 h2 => ?_) fun j h1 hj => ?_
      · rw [heap_set _ _ _ _ _ (by omega)]
        exact S5.out g (by omega) (by omega) h1
      · repeat rw [Array.getElem?_setIfInBounds_ne (by omega)]
end Go.Proofs.YtgnonbghgcpnoaaDoor
