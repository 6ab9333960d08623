/- The law's marks written into definitions and a document by its blocks, and held. -/
import Derived.Test.YtlilfbcngncllaaGreatDoorPmMark
namespace Go.Proofs.YtlilfbcngncllaaGreatDoor
open Go.ChangeShapes Go.WideShapes Go.ChangeAt Go.RowKit
set_option linter.unusedVariables false

def mkD (k : Nat) (l : List De) : List De := G.mks fDe cDe k l
theorem mkD_len (k : Nat) (l : List De) : (mkD k l).length = l.length := G.mks_length _ _ _ _
theorem mks_snoc {α : Type} (f : Nat → α → α) (c : α → Nat) : ∀ (l : List α) (k : Nat) (x : α), G.mks f c k (l ++ [x]) = G.mks f c k l ++ [f (k + G.cnt c l) x]
  | [], k, x => by simp [G.mks, G.cnt]
  | y :: l, k, x => by
    simp only [List.cons_append, G.mks, G.cnt]
    rw [mks_snoc f c l, Nat.add_assoc]
def OneDf (w : World) (x : De) (cs : Array Value) (o : Nat) (bs : List Nat) : Prop :=
  ∃ a5 d5, cs[o]? = some (.int .i64 x.k) ∧ cs[o + 1]? = some (.string x.nm) ∧ cs[o + 2]? = some (.string x.on) ∧ cs[o + 3]? = some (.slice a5 x.sels.len d5) ∧ SelsBk w a5 x.sels bs
theorem DefBk.snoc {w : World} {cs : Array Value} {x : De} : ∀ (l : List De) {o : Nat} {bp b1 : List Nat}, DefBk w l cs o bp → OneDf w x cs (o + 4 * l.length) b1 → DefBk w (l ++ [x]) cs o (bp ++ b1)
  | [], o, bp, b1, H, ⟨a5, d5, c0, c1, c2, c3, f⟩ => by
    obtain rfl : bp = [] := H
    exact ⟨a5, d5, b1, [], by simp, by simpa using c0, by simpa using c1, by simpa using c2, by simpa using c3, f, rfl⟩
  | y :: l, o, _, b1, ⟨a5, d5, b5, br, rfl, c0, c1, c2, c3, f, R⟩, K => by
    have := DefBk.snoc l R (b1 := b1) (by rw [show o + 4 + 4 * l.length = o + 4 * (y :: l).length by simp only [List.length_cons]; omega]; exact K)
    exact ⟨a5, d5, b5, br ++ b1, by rw [List.append_assoc], c0, c1, c2, c3, f, this⟩
structure NdD (b : Nat) (bp b5 br : List Nat) : Prop where
  p : ∀ g ∈ bp, g ≠ b ∧ g ∉ b5
  r : ∀ g ∈ br, g ≠ b ∧ g ∉ b5
  n5 : ∀ g ∈ b5, g ≠ b
  nd : b5.Nodup
theorem nd_splitD {b : Nat} {bp b5 br : List Nat} (h : (b :: (bp ++ (b5 ++ br))).Nodup) : NdD b bp b5 br := by
  simp only [List.nodup_cons, List.nodup_append, List.mem_append, not_or] at h
  obtain ⟨⟨h1, h4, h5⟩, h6, ⟨h9, h12, h13⟩, h14⟩ := h
  exact ⟨fun g hg => ⟨fun e => h1 (e ▸ hg), fun q => h14 g hg g (.inl q) rfl⟩, fun g hg => ⟨fun e => h5 (e ▸ hg), fun q => h13 g q g hg rfl⟩, fun g hg e => h4 (e ▸ hg), h9⟩
set_option maxHeartbeats 4000000 in
set_option maxRecDepth 40000 in
theorem mark_defsB (a : Option Addr) (c : Nat) (l : List De) (bs : List Nat) (K : Nat) (kk : Int) (w : World) (hkk : kk = (K : Int)) (ho : DocBk w a l bs) (hnd : bs.Nodup) (hk : 0 < K) (hb : ((K + G.cnt cDe l : Nat) : Int) ≤ 4611686018427387904) :
    Calls Tryz.prog 16 #[.slice a l.length c, .int .i64 kk] w fun e w' => ∃ r : Int, e = .returned (.int .i64 r) ∧ r = ((K + G.cnt cDe l : Nat) : Int) ∧ DocBk w' a (mkD K l) bs ∧ G.Kept bs w w' := by
  subst hkk
  rcases ho with ⟨rfl, rfl⟩ | ⟨b, ds, bk, rfl, rfl, f3, f4, f5⟩
  · simp only [List.length_nil]
    go_enter Tryz.func16, Tryz.ntmps16
    go_wp2_with fail
    go_loopw [1, 5] (fun s i w' => s = .int .i64 (K : Int) ∧ i = .int .i64 0 ∧ w' = w) (fun _ _ _ => 0)
    case atStart => exact ⟨rfl, rfl, rfl⟩
    case round =>
      obtain ⟨rfl, rfl, rfl⟩ := hrel
      go_wp2_with fail
      go_ret
      exact ⟨_, rfl, by simp [G.cnt], .inl ⟨rfl, rfl⟩, G.Kept.refl _ _⟩
  have hl9 : (l.length : Int) ≤ 4611686018427387904 := by
    have : ∀ r : List De, r.length ≤ G.cnt cDe r := fun r => by
      induction r with
      | nil => exact Nat.le_refl _
      | cons x r ih => simp only [List.length_cons, G.cnt, cDe]; omega
    have := this l
    omega
  have HB : Hid _ := hb
  have F3 : Hid _ := f3
  have F5 : Hid _ := f5
  have HND : Hid ((b :: bk).Nodup) := hnd
  clear f3 f5 hb hnd
  go_enter Tryz.func16, Tryz.ntmps16
  go_wp2_with fail
  go_loopw [1, 5] (fun s i w' => ∃ (n q : Nat) (bp br : List Nat) (cs : Array Value), n ≤ l.length ∧ i = .int .i64 n ∧ s = .int .i64 (q : Int) ∧ Hid (q = K + G.cnt cDe (l.take n)) ∧ 0 < q ∧ Hid (bk = bp ++ br) ∧ Hid (w'.heap[b]? = some (.cells cs 47 (0, 0))) ∧ Hid (l.length * 4 ≤ cs.size) ∧ Hid (DefBk w' (mkD K (l.take n)) cs 0 bp) ∧ Hid (DefBk w' (l.drop n) cs (n * 4) br) ∧ Hid (G.Kept (b :: bk) w w')) (fun _ i _ => l.length - (intOf i).toNat)
  case atStart => exact ⟨0, K, [], bk, ds, by omega, rfl, rfl, by simp [Hid, G.cnt], hk, rfl, F3, f4, rfl, by rw [Nat.zero_mul]; exact F5, G.Kept.refl _ _⟩
  case round =>
    obtain ⟨n, q, bp, br0, cs, hn1, rfl, rfl, HQ, hq0, HBK, H0, HC, HS, HR, HK⟩ := hrel
    by_cases hlt : n < l.length
    case neg =>
      have hn : n = l.length := by omega
      have HE : Hid ((q : Int) = ((K + G.cnt cDe l : Nat) : Int) ∧ DocBk wr (some ⟨b, 0, none⟩) (mkD K l) (b :: bk)) := by
        have hq := HQ.out
        have hs := HS.out
        have hr := HR.out
        rw [hn, List.take_length] at hq hs
        rw [hn, List.drop_length] at hr
        have hbr : br0 = [] := hr
        refine ⟨by omega, .inr ⟨b, cs, bk, rfl, rfl, H0.out, by rw [mkD_len]; exact HC.out, ?_⟩⟩
        rw [HBK.out, hbr, List.append_nil]
        exact hs
      clear HS HR HQ
      go_wp2_with fail
      go_ret
      exact ⟨_, rfl, HE.out.1, HE.out.2, HK.out⟩
    have hrd := HR.out
    rw [List.drop_eq_getElem_cons hlt] at hrd
    obtain ⟨a5, d5, b5, br, hbr, c0, c1, c2, p5, q5, hrest⟩ := hrd
    have NS : Hid (NdD b bp b5 br) := nd_splitD (by rw [← hbr, ← HBK.out]; exact HND.out)
    have HBL : Hid (∀ g ∈ bk, g < wr.heap.size) := fun g hg => by
      rw [HBK.out] at hg
      rcases List.mem_append.1 hg with hg | hg
      · exact HS.out.lt g hg
      · exact HR.out.lt g hg
    have M5 : Hid (∀ g ∈ b5, g ∈ bk) := fun g hg => by rw [HBK.out, hbr]; simp only [List.mem_append]; exact .inr (.inl hg)
    have MP : Hid (∀ g, (g ∈ bp ∨ g ∈ br) → g ∈ bk) := fun g hg => by rw [HBK.out, hbr]; simp only [List.mem_append]; rcases hg with hg | hg; exact .inl hg; exact .inr (.inr hg)
    have HBK2 : Hid (bk = (bp ++ b5) ++ br) := by rw [Hid, HBK.out, hbr, ← List.append_assoc]
    have hbw : b < wr.heap.size := (Array.getElem?_eq_some_iff.1 H0.out).1
    have hcs := HC.out
    have hcs2 : n * 4 + 4 ≤ cs.size := by omega
    have hc1 := G.cnt_take cDe hlt
    have HQ2 : Hid (q + 3 + cS l[n].sels = K + G.cnt cDe (l.take (n + 1))) := by have := HQ.out; rw [Hid, hc1, cDe]; omega
    have hq4 : (q : Int) + ((3 + cS l[n].sels : Nat) : Int) ≤ 4611686018427387904 := by
      have h1 := HB.out
      have h2 := HQ2.out
      have h3 := G.cnt_le cDe l (n + 1)
      omega
    have P5 : Hid _ := p5
    have Q5 : Hid (SelsBk wr a5 l[n].sels b5) := q5
    have HRE : Hid (DefBk wr (l.drop (n + 1)) cs (n * 4 + 4) br) := hrest
    obtain ⟨w0, rfl⟩ : ∃ x, x = wr := ⟨_, rfl⟩
    obtain ⟨u0, hv0⟩ : ∃ v, w0.cell? ⟨b, n * 4, none⟩ = some v := ⟨_, (row_cell H0.out _).trans (Array.getElem?_eq_getElem (by omega))⟩
    have hf0 := row_frozen H0.out (n * 4)
    clear c0 c1 c2 p5 q5 hrest HR hcs hc1 hbr HBK
    go_wp2_with fail
    refine (G.mark_text_int _ _ (by omega) (by omega)).mono ?_
    rintro e w1 ⟨rfl, hb1⟩
    have z1 : w0.heap.size ≤ w1.heap.size := by have := hb1.size; simpa using this
    have H1 : Hid (w1.heap[b]? = _) := (hb1.block _ (by simp; omega)).trans (row_set H0.out (n * 4) _)
    have S1 : Hid (∀ g, g ≠ b → g < w0.heap.size → w1.heap[g]? = w0.heap[g]?) := fun g h1 h2 => (hb1.block g (by simpa using h2)).trans (heap_set _ _ _ _ _ h1)
    have K1 : Hid (G.Kept (b :: bk) w w1) := (HK.out.set (p := ⟨b, n * 4, none⟩) (List.mem_cons_self ..) _).trans (G.Kept.of hb1)
    obtain ⟨u1, hv1⟩ : ∃ v, w1.cell? ⟨b, n * 4 + 1, none⟩ = some v := ⟨_, (row_cell H1.out _).trans (Array.getElem?_eq_getElem (by simp; omega))⟩
    have hf1 := row_frozen H1.out (n * 4 + 1)
    clear hb1 hv0 hf0
    go_wp2_with fail
    refine (G.mark_text_int _ _ (by omega) (by omega)).mono ?_
    rintro e w2 ⟨rfl, hb2⟩
    have z2 : w1.heap.size ≤ w2.heap.size := by have := hb2.size; simpa using this
    have H2 : Hid (w2.heap[b]? = _) := (hb2.block _ (by simp; omega)).trans (row_set H1.out (n * 4 + 1) _)
    have S2 : Hid (∀ g, g ≠ b → g < w0.heap.size → w2.heap[g]? = w0.heap[g]?) := fun g h1 h2 => ((hb2.block g (by simp; omega)).trans (heap_set _ _ _ _ _ h1)).trans (S1.out g h1 h2)
    have K2 : Hid (G.Kept (b :: bk) w w2) := (K1.out.set (p := ⟨b, n * 4 + 1, none⟩) (List.mem_cons_self ..) _).trans (G.Kept.of hb2)
    obtain ⟨u2, hv2⟩ : ∃ v, w2.cell? ⟨b, n * 4 + 2, none⟩ = some v := ⟨_, (row_cell H2.out _).trans (Array.getElem?_eq_getElem (by simp; omega))⟩
    have hf2 := row_frozen H2.out (n * 4 + 2)
    have hv3 : w2.cell? ⟨b, n * 4 + 3, none⟩ = some (.slice a5 l[n].sels.len d5) := (row_cell H2.out _).trans (by rw [Array.getElem?_setIfInBounds_ne (by omega), Array.getElem?_setIfInBounds_ne (by omega)]; exact P5.out)
    clear hb2 hv1 hf1
    go_wp2_with fail
    refine Calls.mono (mark_selsB l[n].sels a5 d5 (q + 3) b5 _ _ (by omega) (SelsBk.keep Q5.out (by simp; omega) ?own) NS.out.nd (by omega) (by omega)) ?_
    case own =>
      intro g hg
      have hn := NS.out.n5 g hg
      rw [heap_set _ _ _ _ _ hn]
      exact S2.out g hn (HBL.out g (M5.out g hg))
    rintro e w3 ⟨r3, rfl, hr3, own3, kept3⟩
    have z3 : w2.heap.size ≤ w3.heap.size := by have := kept3.size; simpa using this
    have O3 : Hid (SelsBk w3 a5 (mkS (q + 3) l[n].sels) b5) := own3
    have H3 : Hid (w3.heap[b]? = some (.cells (put3 cs (n * 4) (.int .i64 (q : Int)) (.string (G.mkT (q + 1))) (.string (G.mkT (q + 2)))) 47 (0, 0))) := (kept3.block b (by simp; omega) (fun hx => NS.out.n5 b hx rfl)).trans (row_set H2.out (n * 4 + 2) _)
    have S3 : Hid (∀ g, (g ∈ bp ∨ g ∈ br) → w3.heap[g]? = w0.heap[g]?) := fun g hg => by
      have hlt2 := HBL.out g (MP.out g hg)
      have hn : g ≠ b ∧ g ∉ b5 := hg.elim (NS.out.p g) (NS.out.r g)
      exact ((kept3.block g (by simp; omega) hn.2).trans (heap_set _ _ _ _ _ hn.1)).trans (S2.out g hn.1 hlt2)
    have K3 : Hid (G.Kept (b :: bk) w w3) := (K2.out.set (p := ⟨b, n * 4 + 2, none⟩) (List.mem_cons_self ..) _).trans (kept3.mono fun g hg => List.mem_cons_of_mem _ (M5.out g hg))
    have zz : Hid (w0.heap.size ≤ w3.heap.size) := by unfold Hid; omega
    obtain ⟨cs', hcs'⟩ : ∃ z, z = put3 cs (n * 4) (.int .i64 (q : Int)) (.string (G.mkT (q + 1))) (.string (G.mkT (q + 2))) := ⟨_, rfl⟩
    have hgx : ∀ j, j < n * 4 ∨ n * 4 + 3 ≤ j → cs'[j]? = cs[j]? := fun j hj => by rw [hcs']; exact put3_ne hj
    have hg3 : cs'[n * 4]? = some (.int .i64 (q : Int)) ∧ cs'[n * 4 + 1]? = some (.string (G.mkT (q + 1))) ∧ cs'[n * 4 + 2]? = some (.string (G.mkT (q + 2))) := by rw [hcs']; exact put3_at (by omega)
    have hsz : cs'.size = cs.size := by rw [hcs', put3_size]
    rw [← hcs'] at H3
    have HS3 : Hid (DefBk w3 (mkD K (l.take (n + 1))) cs' 0 (bp ++ b5)) := by
      unfold Hid
      have e : l.take (n + 1) = l.take n ++ [l[n]] := by rw [List.take_succ_eq_append_getElem hlt]
      rw [e]
      unfold mkD
      rw [mks_snoc, ← HQ.out]
      refine DefBk.snoc _ (DefBk.cells (cs := cs) (DefBk.keep zz.out HS.out fun g h1 => S3.out g (.inl h1)) fun j _ hj => hgx j ?_) ?_
      · rw [G.mks_length, List.length_take] at hj
        omega
      · rw [G.mks_length, List.length_take, show 0 + 4 * min n l.length = n * 4 by omega]
        exact ⟨a5, d5, hg3.1, hg3.2.1, hg3.2.2, by rw [hgx _ (by omega), P5.out]; simp only [fDe, mkS_len], O3.out⟩
    have HR3 : Hid (DefBk w3 (l.drop (n + 1)) cs' ((n + 1) * 4) br) := by
      unfold Hid
      rw [show (n + 1) * 4 = n * 4 + 4 by omega]
      exact DefBk.cells (cs := cs) (DefBk.keep zz.out HRE.out fun g h1 => S3.out g (.inr h1)) fun j h1 hj => hgx j (by omega)
    have HC3 : Hid (l.length * 4 ≤ cs'.size) := by rw [Hid, hsz]; exact HC.out
    clear own3 kept3 hv2 hf2 hv3 hcs' hgx hg3 hsz
    go_wp2_with fail
    refine ⟨⟨n + 1, q + 3 + cS l[n].sels, _, br, cs', by omega, by go_num, ?_, HQ2, by omega, HBK2, H3, HC3, HS3, HR3, K3⟩, by simp [intOf]; omega⟩
    exact val_int (by omega)

set_option maxHeartbeats 1000000 in
theorem mark_docB (a : Option Addr) (c : Nat) (l : List De) (bs : List Nat) (K : Nat) (w : World) (ho : DocBk w a l bs) (hnd : bs.Nodup) (hlt : ∀ g ∈ bs, g < w.heap.size) (hk : 0 < K) (hb : ((K + G.cnt cDe l : Nat) : Int) ≤ 4611686018427387904) :
    Calls Tryz.prog 7 #[.agg #[.slice a l.length c], .int .i64 (K : Int)] w fun e w' => ∃ r : Int, e = .returned (.int .i64 r) ∧ r = ((K + G.cnt cDe l : Nat) : Int) ∧ DocBk w' a (mkD K l) bs ∧ G.Kept bs w w' := by
  have HO : Hid _ := ho
  have HLT : Hid _ := hlt
  clear ho hlt
  go_enter Tryz.func7, Tryz.ntmps7
  go_wp2_with fail
  refine Calls.mono (mark_defsB a c l bs K _ _ rfl (DocBk.keep HO.out (by simp) ?own) hnd hk hb) ?_
  case own =>
    intro g hg
    exact Below.heap_alloc _ _ _ (HLT.out g hg)
  rintro e w1 ⟨r, rfl, hr, o1, k1⟩
  have P1 : Hid (G.Kept bs w w1) := (G.Kept.of ((Below.refl _ _).alloc (Nat.le_refl _) _)).trans k1
  have HR : Hid _ := hr
  have O1 : Hid _ := o1
  clear k1 hr o1
  go_wp2_with fail
  go_ret
  exact ⟨_, rfl, HR.out, O1.out, P1.out⟩
set_option maxHeartbeats 4000000 in
set_option maxRecDepth 40000 in
theorem held_defs (a : Option Addr) (c : Nat) (l : List De) (K : Nat) (kk : Int) (w : World) (hkk : kk = (K : Int)) (hr : DeRow 0 w.heap.size w a (mkD K l)) (hk : 0 < K) (hb : ((K + G.cnt cDe l : Nat) : Int) ≤ 4611686018427387904) :
    Calls Tryz.prog 17 #[.slice a l.length c, .int .i64 kk] w fun e w' => ∃ r : Int, e = .returned (.int .i64 r) ∧ r = ((K + G.cnt cDe l : Nat) : Int) ∧ Below w.heap.size w w' := by
  have HR : Hid (DeRow 0 w.heap.size w a (mkD K l)) := hr
  have HB : Hid _ := hb
  have hl9 : (l.length : Int) ≤ 4611686018427387904 := by
    have : ∀ r : List De, r.length ≤ G.cnt cDe r := fun r => by
      induction r with
      | nil => exact Nat.le_refl _
      | cons x r ih => simp only [List.length_cons, G.cnt, cDe]; omega
    have := this l
    omega
  clear hr hb
  go_enter Tryz.func17, Tryz.ntmps17
  go_wp2_with fail
  go_loopw [1, 5] (fun s i w' => ∃ (n q : Nat), n ≤ l.length ∧ i = .int .i64 n ∧ s = .int .i64 (q : Int) ∧ Hid (q = K + G.cnt cDe (l.take n)) ∧ 0 < q ∧ Below w.heap.size w w') (fun _ i _ => l.length - (intOf i).toNat)
  case atStart => exact ⟨0, K, by omega, rfl, by rw [hkk], by simp [Hid, G.cnt], hk, Below.refl _ _⟩
  case round =>
    obtain ⟨n, q, hn1, rfl, rfl, HQ, hq0, hbw⟩ := hrel
    by_cases hlt : n < l.length
    case neg =>
      have hn : n = l.length := by omega
      have HN : Hid ((q : Int) = ((K + G.cnt cDe l : Nat) : Int)) := by
        have h1 := HQ.out
        rw [hn, List.take_length] at h1
        unfold Hid; omega
      go_wp2_with fail
      go_ret
      exact ⟨_, rfl, HN.out, hbw⟩
    have hc1 := G.cnt_take cDe hlt
    have HQ2 : Hid (q + 3 + cS l[n].sels = K + G.cnt cDe (l.take (n + 1))) := by have := HQ.out; rw [Hid, hc1, cDe]; omega
    have hq4 : (q : Int) + ((3 + cS l[n].sels : Nat) : Int) ≤ 4611686018427387904 := by
      have h1 := HB.out
      have h2 := HQ2.out
      have h3 := G.cnt_le cDe l (n + 1)
      omega
    have hlm : n < (mkD K l).length := by rw [mkD_len]; exact hlt
    have HX : (mkD K l)[n] = fDe q l[n] := by
      have := G.mks_get fDe cDe K l n hlt
      rw [← HQ.out] at this
      have h2 : (mkD K l)[n]? = some (mkD K l)[n] := List.getElem?_eq_getElem hlm
      exact Option.some.inj (h2.symm.trans this)
    have hlt' : (n : Int) < l.length := by omega
    obtain ⟨w0, rfl⟩ : ∃ x, x = wr := ⟨_, rfl⟩
    obtain ⟨b, o, a5, d5, ha, _, hbl, c0, c1, c2, c3, r5⟩ := (HR.out.keep (Below.agree hbw (Nat.le_refl _))).cells n hlm
    rw [HX] at c0 c1 c2 c3 r5
    replace c0 : w0.cell? ⟨b, o + n * 4, none⟩ = some (.int .i64 (q : Int)) := c0
    replace c1 : w0.cell? ⟨b, o + n * 4 + 1, none⟩ = some (.string (G.mkT (q + 1))) := c1
    replace c2 : w0.cell? ⟨b, o + n * 4 + 2, none⟩ = some (.string (G.mkT (q + 2))) := c2
    replace c3 : w0.cell? ⟨b, o + n * 4 + 3, none⟩ = some (.slice a5 (mkS (q + 3) l[n].sels).len d5) := c3
    rw [mkS_len] at c3
    have R5 : Hid (SelRow 0 w.heap.size w0 a5 (mkS (q + 3) l[n].sels)) := r5
    subst ha
    have hbz := hbw.size
    have hbl' : b < w0.heap.size := by omega
    have hq3 : (q : Int) ≤ 4611686018427387901 := by omega
    have HQ4 : Hid _ := hq4
    clear HX hc1 r5 HQ hq4
    go_wp2_with fail
    go_region_with (go_at_call 28; refine (mark_text_as (q + 1) _ _ (by omega) (by omega) (by omega)).mono ?_; rintro e w1 ⟨rfl, hb1⟩; have t1 := fun j => hb1.cell (p := ⟨b, j, none⟩) hbl')
    all_goals
      have p1 : Hid (Below w0.heap.size w0 w1) := (Below.refl _ _).drew.trans hb1
      have z1 : w0.heap.size ≤ w1.heap.size := hb1.size
      clear hb1
      go_wp2_with fail
      go_region_with (go_at_call 28; refine (mark_text_as (q + 2) _ _ (by omega) (by omega) (by omega)).mono ?_; rintro e w2 ⟨rfl, hb2⟩; have t2 := fun j => hb2.cell (p := ⟨b, j, none⟩) (show b < w1.heap.size by omega))
      all_goals
        have p2 : Hid (Below w0.heap.size w0 w2) := p1.out.drew.trans (hb2.mono z1)
        have z2 : w0.heap.size ≤ w2.heap.size := Nat.le_trans z1 hb2.size
        have t3 := fun j => p2.out.cell (p := ⟨b, j, none⟩) hbl'
        clear hb2
        go_wp2_with fail
        refine Calls.mono (held_sels l[n].sels a5 d5 (q + 3) _ _ (by have := HQ4.out; omega) (SelRow.wide (SelRow.keep R5.out (Below.agree p2.out hbz)) (Nat.le_refl _) (by omega)) (by omega) (by have := HQ4.out; omega)) ?_
        rintro e w3 ⟨r3, rfl, hr3, hb3⟩
        have q3 : Hid (Below w.heap.size w w3) := hbw.trans ((p2.out.trans (hb3.mono z2)).mono hbz)
        have hn3 : ¬ r3 < 0 := by omega
        clear hb3 t1 t2 t3
        go_wp2_with fail
        first
          | exact ⟨⟨n + 1, q + 3 + cS l[n].sels, by omega, by go_num, val_int (by omega), HQ2, by omega, q3.out⟩, by simp [intOf]; omega⟩
          | (go_roundw
             case rel => exact ⟨n + 1, q + 3 + cS l[n].sels, by omega, by go_num, val_int (by omega), HQ2, by omega, q3.out⟩
             case measure => simp [intOf]; omega)
set_option maxHeartbeats 1000000 in
theorem held_docB (a : Option Addr) (c : Nat) (l : List De) (K : Nat) (w : World) (ho : DeRow 0 w.heap.size w a (mkD K l)) (hk : 0 < K) (hb : ((K + G.cnt cDe l : Nat) : Int) ≤ 4611686018427387904) :
    Calls Tryz.prog 8 #[.agg #[.slice a l.length c], .int .i64 (K : Int)] w fun e w' => ∃ r : Int, e = .returned (.int .i64 r) ∧ r = ((K + G.cnt cDe l : Nat) : Int) ∧ Below w.heap.size w w' := by
  have HO : Hid _ := ho
  clear ho
  go_enter Tryz.func8, Tryz.ntmps8
  go_wp2_with fail
  refine Calls.mono (held_defs a c l K _ _ rfl (DeRow.up HO.out ?own) hk hb) ?_
  case own => exact (Below.refl _ _).alloc (Nat.le_refl _) _
  rintro e w1 ⟨r, rfl, hr, k1⟩
  have P1 : Hid (Below w.heap.size w w1) := ((Below.refl _ _).alloc (Nat.le_refl _) _).trans (k1.mono (by simp))
  have hn : ¬ r < 0 := by omega
  clear k1
  go_wp2_with fail
  go_ret
  exact ⟨_, rfl, by omega, P1.out⟩
end Go.Proofs.YtlilfbcngncllaaGreatDoor
