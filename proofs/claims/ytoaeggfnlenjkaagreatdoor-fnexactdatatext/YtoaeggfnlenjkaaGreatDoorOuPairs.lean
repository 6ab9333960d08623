/- The program's texts of an object's items. -/
import Derived.Test.YtoaeggfnlenjkaaGreatDoorOuTextImpl
import Derived.Test.YtoaeggfnlenjkaaGreatDoorGRegion
namespace Go.Proofs.YtoaeggfnlenjkaaGreatDoor.G
open Go.ChangeShapes Go.WideShapes Go.ChangeAt Go.RowKit
set_option linter.unusedVariables false

theorem keyed_pr (k s : ByteArray) : keyed true k s = pr k s := by
  unfold keyed pr qd
  rw [if_pos rfl]
  apply bytes_same
  simp
set_option maxHeartbeats 8000000 in
set_option maxRecDepth 40000 in
theorem impl_pairs (d : Nat) (ih : TextI d) (l : Ous) (ks : List ByteArray) (a1 a : Option Addr) (c1 c : Nat) (w : World) (hk : KeRow 0 w.heap.size w a1 ks) (hr : OuRow 0 w.heap.size w a l) (hkl : ks.length = l.len) (hkz : ∀ k ∈ ks, k.size ≤ 40) (hok : okO d l = true) (hs : l.size ≤ 4000) (hp : Pow w) :
    Calls Tryz.prog 77 #[.agg #[.slice a1 ks.length c1, .slice a l.len c]] w fun e w' => ∃ a', e = .returned (.slice a' l.len l.len) ∧ KeRow 0 w'.heap.size w' a' (wordsO true ks l) ∧ Below w.heap.size w w' := by
  have hl : l.len ≤ 4000 := Nat.le_trans l.len_le_size hs
  have HKL : Hid (ks.length = l.len) := hkl
  have HKZ : Hid _ := hkz
  have IH : Hid (TextI d) := ih
  obtain ⟨V, hV⟩ : ∃ V, V = w.alloc (.cells #[.slice a1 ks.length c1, .slice a l.len c] 109) := ⟨_, rfl⟩
  have BV : Below w.heap.size w V := by rw [hV]; exact (Below.refl _ _).alloc (Nat.le_refl _) _
  have hc0 : V.heap[w.heap.size]? = some (.cells #[.slice a1 ks.length c1, .slice a l.len c] 109 (0, 0)) := by rw [hV]; exact heap_alloc_new _ _
  have y0 := fun o => row_cell hc0 o
  have zV : w.heap.size < V.heap.size := (Array.getElem?_eq_some_iff.1 hc0).1
  have KV : Hid (∀ W, Below V.heap.size V W → W.heap[w.heap.size]? = some (.cells #[.slice a1 ks.length c1, .slice a l.len c] 109 (0, 0)) ∧ KeRow 0 W.heap.size W a1 ks ∧ Pow W ∧ Below w.heap.size w W) := fun W hW =>
    have hb := BV.trans (hW.mono BV.size)
    ⟨(hW.block _ zV).trans hc0, KeRow.up hk hb, hp.up hb, hb⟩
  have HR : Hid (OuFrom 0 V.heap.size V a 0 l) := (OuRow.up hr BV).from_
  have HOK : Hid (okO d l = true ∧ l.size ≤ 4000) := ⟨hok, hs⟩
  have HWL : Hid ((wordsO true ks l).length = l.len) := words_len _ _ _
  clear hk hr ih hp hok hs hkl hkz hc0 BV
  obtain ⟨i9, hi, hz, hsz, hby⟩ := info_parts info9s
  have hmk := run_make (P := Tryz.prog) V 23 9 i9 _ Tryz.underlying23 hi hz .i64 .i64 (l.len : Int) (l.len : Int) (by omega) (by omega) (by rw [hby]; omega) (by omega)
  rw [hsz, Int.toNat_natCast] at hmk
  clear hi hz hsz hby
  have hs0 := size_madeCells (Value.string ⟨#[]⟩).cells (l.len * 1)
  generalize madeCells (Value.string ⟨#[]⟩).cells (l.len * 1) = cs0 at *
  have y1 := fun ob o => (((Below.refl V.heap.size V).alloc (Nat.le_refl _) ob).cell (p := ⟨w.heap.size, o, none⟩) zV).trans (y0 o)
  go_enter Tryz.func77, Tryz.ntmps77
  go_upto_region 1 with fail
  rw [← hV]
  clear hV
  go_wp2_with fail
  go_loopw [13] (fun i w' => ∃ (k : Nat) (cs : Array Value) (rest : Ous), k + rest.len = l.len ∧ i = .int .i64 k ∧ Hid (Below V.heap.size V w') ∧ Hid (w'.heap[V.heap.size]? = some (.cells cs 9 (0, 0))) ∧ cs.size = l.len ∧ Hid (LaidW cs (wordsO true ks l) k) ∧ Hid (OuFrom 0 V.heap.size V a k rest) ∧ Hid (okO d rest = true ∧ rest.size ≤ 4000) ∧ Hid (WordsAt true ks l k rest)) (fun i _ => l.len - (intOf i).toNat)
  case atStart => exact ⟨0, cs0, l, by omega, rfl, (Below.refl _ _).alloc (Nat.le_refl _) _, heap_alloc_new _ _, by omega, fun i t h => by omega, HR, HOK, rfl⟩
  case round =>
    obtain ⟨wo, rfl⟩ : ∃ x, x = wr := ⟨_, rfl⟩
    obtain ⟨k, cs, rest, hk, rfl, HB, HH, hcs, HL, HF, HO, HW⟩ := hrel
    clear hmk hs0 y0 y1
    have hbz := HB.out.size
    obtain ⟨k0, k1, k2, k3⟩ := KV.out _ HB.out
    have HK1 : Hid _ := k1
    have HBW : Hid _ := k3
    cases rest with
    | nil =>
      simp only [Ous.len, Nat.add_zero] at hk
      have HFIN : Hid (KeRow 0 wo.heap.size wo (some ⟨V.heap.size, 0, none⟩) (wordsO true ks l)) := by
        have := HL.out
        rw [hk, ← HWL.out] at this
        exact this.row HH.out
      have hnl : ¬ (k : Int) < l.len := by omega
      clear hk k0 k1 k2 k3
      go_wp2_with fail
      go_ret
      exact ⟨_, rfl, HFIN.out, HBW.out⟩
    | cons h sub rest =>
      have hlt : (k : Int) < l.len := by simp only [Ous.len] at hk; omega
      have hltN : k < ks.length := by have := HKL.out; omega
      have hltK : (k : Int) < ks.length := by omega
      obtain ⟨b, o, a1', c1', a2', c2', ha, _, hbl, d0, d1, d2, d3, d4, hc, p1, p2, _⟩ := OuFrom.step (OuFrom.keep HF.out (agree HB.out (Nat.le_refl _)))
      have HF2 : Hid (OuFrom 0 V.heap.size V a (k + 1) rest) := by
        obtain ⟨_, _, _, _, _, _, _, _, _, _, _, _, _, _, _, _, _, rf9⟩ := OuFrom.step HF.out
        exact rf9
      obtain ⟨o1, o2, o3⟩ := ok_out HO.out.1 HO.out.2
      have HO1 : Hid _ := o1
      have HO2 : Hid (okO d rest = true ∧ rest.size ≤ 4000) := ⟨o2, o3⟩
      obtain ⟨n1, n2⟩ := HW.out.next
      have HN1 : Hid ((wordsO true ks l)[k]? = some (pr ks[k] (outT h sub))) := by
        unfold Hid
        rw [n1, keyed_pr, List.getD_eq_getElem?_getD, List.getElem?_eq_getElem hltN]; rfl
      have HN2 : Hid _ := n2
      have hNw : V.heap.size < wo.heap.size := (Array.getElem?_eq_some_iff.1 HH.out).1
      have R1 : Hid (KeRow 0 wo.heap.size wo a1' h.keys ∧ OuRow 0 wo.heap.size wo a2' sub) := ⟨KeRow.wide p1 (Nat.le_refl _) hbz, OuRow.wide p2 (Nat.le_refl _) hbz⟩
      obtain ⟨bk, ok, hak, _, hbk, ck⟩ := KeRow.cells HK1.out k hltN
      have HZ : Hid (ks[k].size ≤ 40) := HKZ.out _ (List.getElem_mem hltN)
      have HTZ : Hid ((outT h sub).size ≤ 480042) := outT_size o1
      subst ha hak
      clear o1 o2 o3 n1 n2 p1 p2 HW HF HO k1 k2 k3
      obtain ⟨U, hU⟩ : ∃ X, X = wo.alloc (.cells #[.int .i64 h.k, .int .i64 h.n, .string h.t, .slice a1' h.keys.length c1', .slice a2' sub.len c2'] 26) := ⟨_, rfl⟩
      have BU : Below wo.heap.size wo U := by rw [hU]; exact (Below.refl _ _).alloc (Nat.le_refl _) _
      have c0 : U.heap[wo.heap.size]? = some (.cells #[.int .i64 h.k, .int .i64 h.n, .string h.t, .slice a1' h.keys.length c1', .slice a2' sub.len c2'] 26 (0, 0)) := by rw [hU]; exact heap_alloc_new _ _
      have zU : wo.heap.size < U.heap.size := (Array.getElem?_eq_some_iff.1 c0).1
      have KS : Hid (∀ W, Below U.heap.size U W → (∀ o, W.cell? ⟨wo.heap.size, o, none⟩ = (#[.int .i64 h.k, .int .i64 h.n, .string h.t, .slice a1' h.keys.length c1', .slice a2' sub.len c2'] : Array Value)[o]?) ∧ (∀ q, W.cell? ⟨w.heap.size, q, none⟩ = (#[.slice (some ⟨bk, ok, none⟩) ks.length c1, .slice (some ⟨b, o, none⟩) l.len c] : Array Value)[q]?) ∧ W.cell? ⟨bk, ok + k, none⟩ = some (.string ks[k]) ∧ W.heap[V.heap.size]? = some (.cells cs 9 (0, 0)) ∧ Below wo.heap.size wo W) := fun W hW =>
        have hb := BU.trans (hW.mono BU.size)
        ⟨fun o => row_cell ((hW.block _ zU).trans c0) o, fun q => row_cell ((hb.block _ (by omega)).trans k0) q, (hb.cell (p := ⟨bk, ok + k, none⟩) hbk).trans ck, (hb.block _ hNw).trans HH.out, hb⟩
      go_upto_region 5 with fail
      rw [← hU]
      clear hU d0 d1 d2 d3 d4 c0 k0 HH ck
      refine region_rel (n := 11) (by kernel_rfl) (by kernel_rfl) (by kernel_rfl) (fun u' => ⟨#[.agg #[.slice (some ⟨bk, ok, none⟩) ks.length c1, .slice (some ⟨b, o, none⟩) l.len c], .pointer (some ⟨w.heap.size, 0, none⟩), .slice none 0 0, .slice (some ⟨V.heap.size, 0, none⟩) l.len l.len, .int .i64 (k : Int), .pointer (some ⟨wo.heap.size, 0, none⟩), .pointer (some ⟨w.heap.size, 1, none⟩), .slice (some ⟨b, o, none⟩) l.len c, .int .i64 (l.len : Int), .slice (some ⟨V.heap.size, 0, none⟩) l.len l.len, .pointer (some ⟨w.heap.size, 1, none⟩), .slice (some ⟨b, o, none⟩) l.len c, .int .i64 (l.len : Int), .int .i64 (k : Int), .bool true, .int .i64 (k : Int), .pointer (some ⟨b, o + k * 5, none⟩), .agg #[.int .i64 h.k, .int .i64 h.n, .string h.t, .slice a1' h.keys.length c1', .slice a2' sub.len c2'], u' 18, u' 19, u' 20, u' 21, u' 22, u' 23, u' 24, u' 25, u' 26, u' 27, u' 28, u29, undef], []⟩) (fun i => match i with | 18 => u18 | 19 => u19 | 20 => u20 | 21 => u21 | 22 => u22 | 23 => u23 | 24 => u24 | 25 => u25 | 26 => u26 | 27 => u27 | 28 => u28 | _ => undef) (fun i => i + 18) (fun i j _ _ h => by omega) (fun i v w2 => match i with | 0 => v = .slice (some ⟨V.heap.size, 0, none⟩) l.len l.len | 1 => v = .int .i64 (k : Int) | 2 => v = .pointer (some ⟨w.heap.size, 0, none⟩) | 3 => v = .slice (some ⟨bk, ok, none⟩) ks.length c1 | 4 => v = .int .i64 (k : Int) | 5 => v = .pointer (some ⟨bk, ok + k, none⟩) | 6 => v = .string ks[k] | 7 => v = .agg #[.int .i64 h.k, .int .i64 h.n, .string h.t, .slice a1' h.keys.length c1', .slice a2' sub.len c2'] | 8 => v = .string (outT h sub) | 9 => v = .string (pr ks[k] (outT h sub)) | 10 => v = .pointer (some ⟨V.heap.size, k, none⟩) | _ => True) (fun _ _ => True) ?up trivial ?step ?last
      case up =>
        intro i v w2 w3 hv hbb
        split at hv <;> exact hv
      case step =>
        intro u' w2 i hi hbw _ hdep
        obtain ⟨s1, s2, s3, s4, s5⟩ := KS.out _ hbw
        have S5 : Hid _ := s5
        have hcase : i = 0 ∨ i = 1 ∨ i = 2 ∨ i = 3 ∨ i = 4 ∨ i = 5 ∨ i = 6 ∨ i = 7 ∨ i = 8 ∨ i = 9 ∨ i = 10 := by omega
        clear hi hbw s4 s5
        rcases hcase with rfl | rfl | rfl | rfl | rfl | rfl | rfl | rfl | rfl | rfl | rfl
        · refine wpOp_step rfl (fun K hK => ?_)
          clear hdep
          go_simp
          exact hK _ _ ⟨_, rfl, Below.refl _ _, rfl, trivial⟩
        · refine wpOp_step rfl (fun K hK => ?_)
          clear hdep
          go_simp
          exact hK _ _ ⟨_, rfl, Below.refl _ _, rfl, trivial⟩
        · refine wpOp_step rfl (fun K hK => ?_)
          clear hdep
          go_simp
          exact hK _ _ ⟨_, rfl, Below.refl _ _, rfl, trivial⟩
        · have d2 : u' 20 = .pointer (some ⟨w.heap.size, 0, none⟩) := hdep _ rfl ⟨2, .data⟩ (by simp) rfl
          refine wpOp_step rfl (fun K hK => ?_)
          clear hdep
          go_simp
          exact hK _ _ ⟨_, by simp [upd, d2], Below.refl _ _, rfl, trivial⟩
        · refine wpOp_step rfl (fun K hK => ?_)
          clear hdep
          go_simp
          exact hK _ _ ⟨_, rfl, Below.refl _ _, rfl, trivial⟩
        · have d3 : u' 21 = .slice (some ⟨bk, ok, none⟩) ks.length c1 := hdep _ rfl ⟨3, .data⟩ (by simp) rfl
          have d4 : u' 22 = .int .i64 (k : Int) := hdep _ rfl ⟨4, .data⟩ (by simp) rfl
          refine wpOp_step rfl (fun K hK => ?_)
          clear hdep
          go_simp
          exact hK _ _ ⟨_, by simp [upd, d3, d4], Below.refl _ _, rfl, trivial⟩
        · have d5 : u' 23 = .pointer (some ⟨bk, ok + k, none⟩) := hdep _ rfl ⟨5, .data⟩ (by simp) rfl
          refine wpOp_step rfl (fun K hK => ?_)
          clear hdep
          go_simp
          exact hK _ _ ⟨_, by simp [upd, d5], Below.refl _ _, rfl, trivial⟩
        · refine wpOp_step rfl (fun K hK => ?_)
          clear hdep
          go_simp
          exact hK _ _ ⟨_, rfl, Below.refl _ _, rfl, trivial⟩
        · have d7 : u' 25 = .agg #[.int .i64 h.k, .int .i64 h.n, .string h.t, .slice a1' h.keys.length c1', .slice a2' sub.len c2'] := hdep _ rfl ⟨7, .data⟩ (by simp) rfl
          refine wpOp_step rfl (fun K hK => ?_)
          clear hdep
          go_simp
          refine (IH.out h sub a1' a2' c1' c2' w2 (KeRow.up R1.out.1 S5.out) (OuRow.up R1.out.2 S5.out) hc HO1.out (KV.out _ (HB.out.trans (S5.out.mono hbz))).2.2.1).mono ?_
          rintro e w8 ⟨rfl, hb8⟩
          exact hK _ _ ⟨_, by simp [upd, d7], hb8, rfl, trivial⟩
        · have d6 : u' 24 = .string ks[k] := hdep _ rfl ⟨6, .data⟩ (by simp) rfl
          have d8 : u' 26 = .string (outT h sub) := hdep _ rfl ⟨8, .data⟩ (by simp) rfl
          refine wpOp_step rfl (fun K hK => ?_)
          clear hdep
          go_simp
          refine (impl_pair ks[k] (outT h sub) w2 (by have := HZ.out; omega) (by have := HTZ.out; omega)).mono ?_
          rintro e w8 ⟨rfl, hw8⟩
          rw [hw8]
          exact hK _ _ ⟨_, by simp [upd, d6, d8], Below.refl _ _, rfl, trivial⟩
        · have d0 : u' 18 = .slice (some ⟨V.heap.size, 0, none⟩) l.len l.len := hdep _ rfl ⟨0, .data⟩ (by simp) rfl
          have d1 : u' 19 = .int .i64 (k : Int) := hdep _ rfl ⟨1, .data⟩ (by simp) rfl
          refine wpOp_step rfl (fun K hK => ?_)
          clear hdep
          go_simp
          exact hK _ _ ⟨_, by simp [upd, d0, d1], Below.refl _ _, rfl, trivial⟩
      case last =>
        intro u' w2 hbw _ hp2
        have d9 : u' 27 = .string (pr ks[k] (outT h sub)) := hp2 9 (by omega)
        have d10 : u' 28 = .pointer (some ⟨V.heap.size, k, none⟩) := hp2 10 (by omega)
        clear hp2
        obtain ⟨s1, s2, s3, s4, s5⟩ := KS.out _ hbw
        obtain ⟨v0, hv0⟩ : ∃ v, w2.cell? ⟨V.heap.size, k, none⟩ = some v := ⟨_, (row_cell s4 _).trans (Array.getElem?_eq_getElem (show k < cs.size by omega))⟩
        have hf0 := row_frozen s4 k
        have HH3 : Hid _ := s4
        have HBV : Hid (Below V.heap.size V w2) := HB.out.trans (s5.mono hbz)
        clear s1 s2 s3 s4 s5 hbw
        refine wpOp_step rfl (fun K hK => ?_)
        go_simp
        refine hK _ _ ?_
        clear hK K
        go_wp2_with fail
        exact ⟨⟨k + 1, _, rest, by simp only [Ous.len] at hk; omega, by first | rfl | go_num, HBV.out.setCell (Nat.le_refl _) _, row_set HH3.out _ _, by simp [hcs], LaidW.put HL.out (by omega) HN1.out, HF2, HO2, HN2⟩, by simp [intOf]; omega⟩
end Go.Proofs.YtoaeggfnlenjkaaGreatDoor.G
