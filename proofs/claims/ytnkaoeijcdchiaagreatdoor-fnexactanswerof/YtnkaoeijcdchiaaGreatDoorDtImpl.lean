/- The program's paths. -/
import Derived.Test.YtnkaoeijcdchiaaGreatDoorGRegion
import Derived.Test.YtnkaoeijcdchiaaGreatDoorOuTakes
import Derived.Test.YtnkaoeijcdchiaaGreatDoorDtSpec
namespace Go.Proofs.YtnkaoeijcdchiaaGreatDoor.G
open Go.ChangeShapes Go.WideShapes Go.ChangeAt Go.RowKit
set_option linter.unusedVariables false

theorem keyed_pr (k s : ByteArray) : keyed true k s = pr k s := by
  unfold keyed pr qd
  rw [if_pos rfl]
  apply bytes_same
  simp
set_option maxHeartbeats 8000000 in
set_option maxRecDepth 40000 in
theorem impl_pairs (d : Nat) (ih : TextI d) (l : Ous) (ks : List ByteArray) (a1 a : Option Addr) (c1 c : Nat) (w : World) (hk : KeRow 0 w.heap.size w a1 ks) (hr : OuRow 0 w.heap.size w a l) (hkl : ks.length = l.len) (hkz : ∀ k ∈ ks, k.size ≤ 40) (hok : okO d l = true) (hs : l.size ≤ 4000) (hp : Pow w) :
    Calls Tryz.prog 95 #[.agg #[.slice a1 ks.length c1, .slice a l.len c]] w fun e w' => ∃ a', e = .returned (.slice a' l.len l.len) ∧ KeRow 0 w'.heap.size w' a' (wordsO true ks l) ∧ Below w.heap.size w w' := by
  have hl : l.len ≤ 4000 := Nat.le_trans l.len_le_size hs
  have HKL : Hid (ks.length = l.len) := hkl
  have HKZ : Hid _ := hkz
  have IH : Hid (TextI d) := ih
  obtain ⟨V, hV⟩ : ∃ V, V = w.alloc (.cells #[.slice a1 ks.length c1, .slice a l.len c] 135) := ⟨_, rfl⟩
  have BV : Below w.heap.size w V := by rw [hV]; exact (Below.refl _ _).alloc (Nat.le_refl _) _
  have hc0 : V.heap[w.heap.size]? = some (.cells #[.slice a1 ks.length c1, .slice a l.len c] 135 (0, 0)) := by rw [hV]; exact heap_alloc_new _ _
  have y0 := fun o => row_cell hc0 o
  have zV : w.heap.size < V.heap.size := (Array.getElem?_eq_some_iff.1 hc0).1
  have KV : Hid (∀ W, Below V.heap.size V W → W.heap[w.heap.size]? = some (.cells #[.slice a1 ks.length c1, .slice a l.len c] 135 (0, 0)) ∧ KeRow 0 W.heap.size W a1 ks ∧ Pow W ∧ Below w.heap.size w W) := fun W hW =>
    have hb := BV.trans (hW.mono BV.size)
    ⟨(hW.block _ zV).trans hc0, KeRow.up hk hb, hp.up hb, hb⟩
  have HR : Hid (OuFrom 0 V.heap.size V a 0 l) := (OuRow.up hr BV).from_
  have HOK : Hid (okO d l = true ∧ l.size ≤ 4000) := ⟨hok, hs⟩
  have HWL : Hid ((wordsO true ks l).length = l.len) := words_len _ _ _
  clear hk hr ih hp hok hs hkl hkz hc0 BV
  obtain ⟨i9, hi, hz, hsz, hby⟩ := info_parts info9s
  have hmk := run_make (P := Tryz.prog) V 27 9 i9 _ Tryz.underlying27 hi hz .i64 .i64 (l.len : Int) (l.len : Int) (by omega) (by omega) (by rw [hby]; omega) (by omega)
  rw [hsz, Int.toNat_natCast] at hmk
  clear hi hz hsz hby
  have hs0 := size_madeCells (Value.string ⟨#[]⟩).cells (l.len * 1)
  generalize madeCells (Value.string ⟨#[]⟩).cells (l.len * 1) = cs0 at *
  have y1 := fun ob o => (((Below.refl V.heap.size V).alloc (Nat.le_refl _) ob).cell (p := ⟨w.heap.size, o, none⟩) zV).trans (y0 o)
  go_enter Tryz.func95, Tryz.ntmps95
  go_upto_region 1 with fail
  rw [← hV]
  clear hV
  go_wp2_with fail
  go_loopw [13] (fun i w' => ∃ (k : Nat) (cs : Array Value) (rest : Ous), k + rest.len = l.len ∧ i = .int .i64 k ∧ Hid (Below V.heap.size V w') ∧ Hid (w'.heap[V.heap.size]? = some (.cells cs 9 (0, 0))) ∧ cs.size = l.len ∧ Hid (LaidW cs (wordsO true ks l) k) ∧ Hid (OuFrom 0 V.heap.size V a k rest) ∧ Hid (okO d rest = true ∧ rest.size ≤ 4000) ∧ Hid (WordsAt true ks l k rest)) (fun i _ => l.len - (intOf i).toNat)
  case atStart => exact ⟨0, cs0, l, by omega, rfl, (Below.refl _ _).alloc (Nat.le_refl _) _, heap_alloc_new _ _, by omega, fun i t h => by omega, HR, HOK, rfl⟩
  case round =>
    obtain ⟨wo, rfl⟩ : ∃ x, x = wr := ⟨_, rfl⟩
    obtain ⟨k, cs, rest, hk, rfl, HB, HH, hcs, HL, HF, HO, HW⟩ := hrel
    clear hmk hs0 y0 y1
    have hbz := HB.out.size
    obtain ⟨k0, k1, k2, k3⟩ := KV.out _ HB.out
    have HK1 : Hid _ := k1
    have HBW : Hid _ := k3
    cases rest with
    | nil =>
      simp only [Ous.len, Nat.add_zero] at hk
      have HFIN : Hid (KeRow 0 wo.heap.size wo (some ⟨V.heap.size, 0, none⟩) (wordsO true ks l)) := by
        have := HL.out
        rw [hk, ← HWL.out] at this
        exact this.row HH.out
      have hnl : ¬ (k : Int) < l.len := by omega
      clear hk k0 k1 k2 k3
      go_wp2_with fail
      go_ret
      exact ⟨_, rfl, HFIN.out, HBW.out⟩
    | cons h sub rest =>
      have hlt : (k : Int) < l.len := by simp only [Ous.len] at hk; omega
      have hltN : k < ks.length := by have := HKL.out; omega
      have hltK : (k : Int) < ks.length := by omega
      obtain ⟨b, o, a1', c1', a2', c2', ha, _, hbl, d0, d1, d2, d3, d4, hc, p1, p2, _⟩ := OuFrom.step (OuFrom.keep HF.out (agree HB.out (Nat.le_refl _)))
      have HF2 : Hid (OuFrom 0 V.heap.size V a (k + 1) rest) := by
        obtain ⟨_, _, _, _, _, _, _, _, _, _, _, _, _, _, _, _, _, rf9⟩ := OuFrom.step HF.out
        exact rf9
      obtain ⟨o1, o2, o3⟩ := ok_out HO.out.1 HO.out.2
      have HO1 : Hid _ := o1
      have HO2 : Hid (okO d rest = true ∧ rest.size ≤ 4000) := ⟨o2, o3⟩
      obtain ⟨n1, n2⟩ := HW.out.next
      have HN1 : Hid ((wordsO true ks l)[k]? = some (pr ks[k] (outT h sub))) := by
        unfold Hid
        rw [n1, keyed_pr, List.getD_eq_getElem?_getD, List.getElem?_eq_getElem hltN]; rfl
      have HN2 : Hid _ := n2
      have hNw : V.heap.size < wo.heap.size := (Array.getElem?_eq_some_iff.1 HH.out).1
      have R1 : Hid (KeRow 0 wo.heap.size wo a1' h.keys ∧ OuRow 0 wo.heap.size wo a2' sub) := ⟨KeRow.wide p1 (Nat.le_refl _) hbz, OuRow.wide p2 (Nat.le_refl _) hbz⟩
      obtain ⟨bk, ok, hak, _, hbk, ck⟩ := KeRow.cells HK1.out k hltN
      have HZ : Hid (ks[k].size ≤ 40) := HKZ.out _ (List.getElem_mem hltN)
      have HTZ : Hid ((outT h sub).size ≤ 480042) := outT_size o1
      subst ha hak
      clear o1 o2 o3 n1 n2 p1 p2 HW HF HO k1 k2 k3
      obtain ⟨U, hU⟩ : ∃ X, X = wo.alloc (.cells #[.int .i64 h.k, .int .i64 h.n, .string h.t, .slice a1' h.keys.length c1', .slice a2' sub.len c2'] 44) := ⟨_, rfl⟩
      have BU : Below wo.heap.size wo U := by rw [hU]; exact (Below.refl _ _).alloc (Nat.le_refl _) _
      have c0 : U.heap[wo.heap.size]? = some (.cells #[.int .i64 h.k, .int .i64 h.n, .string h.t, .slice a1' h.keys.length c1', .slice a2' sub.len c2'] 44 (0, 0)) := by rw [hU]; exact heap_alloc_new _ _
      have zU : wo.heap.size < U.heap.size := (Array.getElem?_eq_some_iff.1 c0).1
      have KS : Hid (∀ W, Below U.heap.size U W → (∀ o, W.cell? ⟨wo.heap.size, o, none⟩ = (#[.int .i64 h.k, .int .i64 h.n, .string h.t, .slice a1' h.keys.length c1', .slice a2' sub.len c2'] : Array Value)[o]?) ∧ (∀ q, W.cell? ⟨w.heap.size, q, none⟩ = (#[.slice (some ⟨bk, ok, none⟩) ks.length c1, .slice (some ⟨b, o, none⟩) l.len c] : Array Value)[q]?) ∧ W.cell? ⟨bk, ok + k, none⟩ = some (.string ks[k]) ∧ W.heap[V.heap.size]? = some (.cells cs 9 (0, 0)) ∧ Below wo.heap.size wo W) := fun W hW =>
        have hb := BU.trans (hW.mono BU.size)
        ⟨fun o => row_cell ((hW.block _ zU).trans c0) o, fun q => row_cell ((hb.block _ (by omega)).trans k0) q, (hb.cell (p := ⟨bk, ok + k, none⟩) hbk).trans ck, (hb.block _ hNw).trans HH.out, hb⟩
      go_upto_region 5 with fail
      rw [← hU]
      clear hU d0 d1 d2 d3 d4 c0 k0 HH ck
      refine region_rel (n := 11) (by kernel_rfl) (by kernel_rfl) (by kernel_rfl) (fun u' => ⟨#[.agg #[.slice (some ⟨bk, ok, none⟩) ks.length c1, .slice (some ⟨b, o, none⟩) l.len c], .pointer (some ⟨w.heap.size, 0, none⟩), .slice none 0 0, .slice (some ⟨V.heap.size, 0, none⟩) l.len l.len, .int .i64 (k : Int), .pointer (some ⟨wo.heap.size, 0, none⟩), .pointer (some ⟨w.heap.size, 1, none⟩), .slice (some ⟨b, o, none⟩) l.len c, .int .i64 (l.len : Int), .slice (some ⟨V.heap.size, 0, none⟩) l.len l.len, .pointer (some ⟨w.heap.size, 1, none⟩), .slice (some ⟨b, o, none⟩) l.len c, .int .i64 (l.len : Int), .int .i64 (k : Int), .bool true, .int .i64 (k : Int), .pointer (some ⟨b, o + k * 5, none⟩), .agg #[.int .i64 h.k, .int .i64 h.n, .string h.t, .slice a1' h.keys.length c1', .slice a2' sub.len c2'], u' 18, u' 19, u' 20, u' 21, u' 22, u' 23, u' 24, u' 25, u' 26, u' 27, u' 28, u29, undef], []⟩) (fun i => match i with | 18 => u18 | 19 => u19 | 20 => u20 | 21 => u21 | 22 => u22 | 23 => u23 | 24 => u24 | 25 => u25 | 26 => u26 | 27 => u27 | 28 => u28 | _ => undef) (fun i => i + 18) (fun i j _ _ h => by omega) (fun i v w2 => match i with | 0 => v = .slice (some ⟨V.heap.size, 0, none⟩) l.len l.len | 1 => v = .int .i64 (k : Int) | 2 => v = .pointer (some ⟨w.heap.size, 0, none⟩) | 3 => v = .slice (some ⟨bk, ok, none⟩) ks.length c1 | 4 => v = .int .i64 (k : Int) | 5 => v = .pointer (some ⟨bk, ok + k, none⟩) | 6 => v = .string ks[k] | 7 => v = .agg #[.int .i64 h.k, .int .i64 h.n, .string h.t, .slice a1' h.keys.length c1', .slice a2' sub.len c2'] | 8 => v = .string (outT h sub) | 9 => v = .string (pr ks[k] (outT h sub)) | 10 => v = .pointer (some ⟨V.heap.size, k, none⟩) | _ => True) (fun _ _ => True) ?up trivial ?step ?last
      case up =>
        intro i v w2 w3 hv hbb
        split at hv <;> exact hv
      case step =>
        intro u' w2 i hi hbw _ hdep
        obtain ⟨s1, s2, s3, s4, s5⟩ := KS.out _ hbw
        have S5 : Hid _ := s5
        have hcase : i = 0 ∨ i = 1 ∨ i = 2 ∨ i = 3 ∨ i = 4 ∨ i = 5 ∨ i = 6 ∨ i = 7 ∨ i = 8 ∨ i = 9 ∨ i = 10 := by omega
        clear hi hbw s4 s5
        rcases hcase with rfl | rfl | rfl | rfl | rfl | rfl | rfl | rfl | rfl | rfl | rfl
        · refine wpOp_step rfl (fun K hK => ?_)
          clear hdep
          go_simp
          exact hK _ _ ⟨_, rfl, Below.refl _ _, rfl, trivial⟩
        · refine wpOp_step rfl (fun K hK => ?_)
          clear hdep
          go_simp
          exact hK _ _ ⟨_, rfl, Below.refl _ _, rfl, trivial⟩
        · refine wpOp_step rfl (fun K hK => ?_)
          clear hdep
          go_simp
          exact hK _ _ ⟨_, rfl, Below.refl _ _, rfl, trivial⟩
        · have d2 : u' 20 = .pointer (some ⟨w.heap.size, 0, none⟩) := hdep _ rfl ⟨2, .data⟩ (by simp) rfl
          refine wpOp_step rfl (fun K hK => ?_)
          clear hdep
          go_simp
          exact hK _ _ ⟨_, by simp [upd, d2], Below.refl _ _, rfl, trivial⟩
        · refine wpOp_step rfl (fun K hK => ?_)
          clear hdep
          go_simp
          exact hK _ _ ⟨_, rfl, Below.refl _ _, rfl, trivial⟩
        · have d3 : u' 21 = .slice (some ⟨bk, ok, none⟩) ks.length c1 := hdep _ rfl ⟨3, .data⟩ (by simp) rfl
          have d4 : u' 22 = .int .i64 (k : Int) := hdep _ rfl ⟨4, .data⟩ (by simp) rfl
          refine wpOp_step rfl (fun K hK => ?_)
          clear hdep
          go_simp
          exact hK _ _ ⟨_, by simp [upd, d3, d4], Below.refl _ _, rfl, trivial⟩
        · have d5 : u' 23 = .pointer (some ⟨bk, ok + k, none⟩) := hdep _ rfl ⟨5, .data⟩ (by simp) rfl
          refine wpOp_step rfl (fun K hK => ?_)
          clear hdep
          go_simp
          exact hK _ _ ⟨_, by simp [upd, d5], Below.refl _ _, rfl, trivial⟩
        · refine wpOp_step rfl (fun K hK => ?_)
          clear hdep
          go_simp
          exact hK _ _ ⟨_, rfl, Below.refl _ _, rfl, trivial⟩
        · have d7 : u' 25 = .agg #[.int .i64 h.k, .int .i64 h.n, .string h.t, .slice a1' h.keys.length c1', .slice a2' sub.len c2'] := hdep _ rfl ⟨7, .data⟩ (by simp) rfl
          refine wpOp_step rfl (fun K hK => ?_)
          clear hdep
          go_simp
          refine (IH.out h sub a1' a2' c1' c2' w2 (KeRow.up R1.out.1 S5.out) (OuRow.up R1.out.2 S5.out) hc HO1.out (KV.out _ (HB.out.trans (S5.out.mono hbz))).2.2.1).mono ?_
          rintro e w8 ⟨rfl, hb8⟩
          exact hK _ _ ⟨_, by simp [upd, d7], hb8, rfl, trivial⟩
        · have d6 : u' 24 = .string ks[k] := hdep _ rfl ⟨6, .data⟩ (by simp) rfl
          have d8 : u' 26 = .string (outT h sub) := hdep _ rfl ⟨8, .data⟩ (by simp) rfl
          refine wpOp_step rfl (fun K hK => ?_)
          clear hdep
          go_simp
          refine (impl_pair ks[k] (outT h sub) w2 (by have := HZ.out; omega) (by have := HTZ.out; omega)).mono ?_
          rintro e w8 ⟨rfl, hw8⟩
          rw [hw8]
          exact hK _ _ ⟨_, by simp [upd, d6, d8], Below.refl _ _, rfl, trivial⟩
        · have d0 : u' 18 = .slice (some ⟨V.heap.size, 0, none⟩) l.len l.len := hdep _ rfl ⟨0, .data⟩ (by simp) rfl
          have d1 : u' 19 = .int .i64 (k : Int) := hdep _ rfl ⟨1, .data⟩ (by simp) rfl
          refine wpOp_step rfl (fun K hK => ?_)
          clear hdep
          go_simp
          exact hK _ _ ⟨_, by simp [upd, d0, d1], Below.refl _ _, rfl, trivial⟩
      case last =>
        intro u' w2 hbw _ hp2
        have d9 : u' 27 = .string (pr ks[k] (outT h sub)) := hp2 9 (by omega)
        have d10 : u' 28 = .pointer (some ⟨V.heap.size, k, none⟩) := hp2 10 (by omega)
        clear hp2
        obtain ⟨s1, s2, s3, s4, s5⟩ := KS.out _ hbw
        obtain ⟨v0, hv0⟩ : ∃ v, w2.cell? ⟨V.heap.size, k, none⟩ = some v := ⟨_, (row_cell s4 _).trans (Array.getElem?_eq_getElem (show k < cs.size by omega))⟩
        have hf0 := row_frozen s4 k
        have HH3 : Hid _ := s4
        have HBV : Hid (Below V.heap.size V w2) := HB.out.trans (s5.mono hbz)
        clear s1 s2 s3 s4 s5 hbw
        refine wpOp_step rfl (fun K hK => ?_)
        go_simp
        refine hK _ _ ?_
        clear hK K
        go_wp2_with fail
        exact ⟨⟨k + 1, _, rest, by simp only [Ous.len] at hk; omega, by first | rfl | go_num, HBV.out.setCell (Nat.le_refl _) _, row_set HH3.out _ _, by simp [hcs], LaidW.put HL.out (by omega) HN1.out, HF2, HO2, HN2⟩, by simp [intOf]; omega⟩
end Go.Proofs.YtnkaoeijcdchiaaGreatDoor.G
namespace Go.Proofs.YtnkaoeijcdchiaaGreatDoor.G
open Go.ChangeShapes Go.WideShapes Go.ChangeAt Go.RowKit
set_option linter.unusedVariables false

theorem ta_int_int (n : Int) (w : World) : (Instr.typeAssert (.iface 3 (.int .i64 n)) 20 3 true).run Tryz.prog w = .ok (.tuple #[.int .i64 n, .bool true]) w := by kernel_rfl
theorem ta_str_int (s : ByteArray) (w : World) : (Instr.typeAssert (.iface 9 (.string s)) 20 3 true).run Tryz.prog w = .ok (.tuple #[.int .i64 0, .bool false]) w := by kernel_rfl
theorem ta_str_str (s : ByteArray) (w : World) : (Instr.typeAssert (.iface 9 (.string s)) 20 9 true).run Tryz.prog w = .ok (.tuple #[.string s, .bool true]) w := by kernel_rfl
theorem ta_lis_int (a : Option Addr) (l c : Nat) (w : World) : (Instr.typeAssert (.iface 42 (.slice a l c)) 20 3 true).run Tryz.prog w = .ok (.tuple #[.int .i64 0, .bool false]) w := by kernel_rfl
theorem ta_lis_str (a : Option Addr) (l c : Nat) (w : World) : (Instr.typeAssert (.iface 42 (.slice a l c)) 20 9 true).run Tryz.prog w = .ok (.tuple #[.string ⟨#[]⟩, .bool false]) w := by kernel_rfl
theorem ta_lis_lis (a : Option Addr) (l c : Nat) (w : World) : (Instr.typeAssert (.iface 42 (.slice a l c)) 20 42 true).run Tryz.prog w = .ok (.tuple #[.slice a l c, .bool true]) w := by kernel_rfl
theorem ta_obj_int (a b : Option Addr) (l c m d : Nat) (w : World) : (Instr.typeAssert (.iface 135 (.agg #[.slice a l c, .slice b m d])) 20 3 true).run Tryz.prog w = .ok (.tuple #[.int .i64 0, .bool false]) w := by kernel_rfl
theorem ta_obj_str (a b : Option Addr) (l c m d : Nat) (w : World) : (Instr.typeAssert (.iface 135 (.agg #[.slice a l c, .slice b m d])) 20 9 true).run Tryz.prog w = .ok (.tuple #[.string ⟨#[]⟩, .bool false]) w := by kernel_rfl
theorem ta_obj_lis (a b : Option Addr) (l c m d : Nat) (w : World) : (Instr.typeAssert (.iface 135 (.agg #[.slice a l c, .slice b m d])) 20 42 true).run Tryz.prog w = .ok (.tuple #[.slice none 0 0, .bool false]) w := by kernel_rfl
theorem ta_obj_obj (a b : Option Addr) (l c m d : Nat) (w : World) : (Instr.typeAssert (.iface 135 (.agg #[.slice a l c, .slice b m d])) 20 135 true).run Tryz.prog w = .ok (.tuple #[.agg #[.slice a l c, .slice b m d], .bool true]) w := by kernel_rfl
theorem ta_nil_int (w : World) : (Instr.typeAssert .nilIface 20 3 true).run Tryz.prog w = .ok (.tuple #[.int .i64 0, .bool false]) w := by kernel_rfl
theorem ta_nil_str (w : World) : (Instr.typeAssert .nilIface 20 9 true).run Tryz.prog w = .ok (.tuple #[.string ⟨#[]⟩, .bool false]) w := by kernel_rfl
theorem ta_nil_lis (w : World) : (Instr.typeAssert .nilIface 20 42 true).run Tryz.prog w = .ok (.tuple #[.slice none 0 0, .bool false]) w := by kernel_rfl
theorem ta_nil_obj (w : World) : (Instr.typeAssert .nilIface 20 135 true).run Tryz.prog w = .ok (.tuple #[.agg #[.slice none 0 0, .slice none 0 0], .bool false]) w := by kernel_rfl
theorem outT_list {h : Oh} {sub : Ous} (k3 : h.k = 3) : outT h sub = lisT (wordsO false [] sub) := by
  have e : ∀ (l : Ous) (ks ks' : List ByteArray), wordsO false ks l = wordsO false ks' l := by
    intro l
    induction l with
    | nil => intro _ _; rfl
    | cons h s r _ ih => intro ks ks'; rw [wordsO, wordsO, ih ks.tail ks'.tail]; rfl
  unfold outT valT lisT endsA endsB
  rw [k3]
  simp only [show ¬ (3 : Int) = 0 by decide, show ¬ (3 : Int) = 1 by decide, show ¬ (3 : Int) = 2 by decide, show ¬ (3 : Int) = 4 by decide, if_false]
  rw [show ((3 : Int) == 4) = false from rfl, e sub h.keys []]
theorem outT_obj {h : Oh} {sub : Ous} (k4 : h.k = 4) : outT h sub = objT (wordsO true h.keys sub) := by
  unfold outT valT objT endsA endsB
  rw [k4]
  simp only [show ¬ (4 : Int) = 0 by decide, show ¬ (4 : Int) = 1 by decide, show ¬ (4 : Int) = 2 by decide, if_false, if_true]
  rfl
theorem head_obj {h : Oh} {sub : Ous} (hh : headB h sub = true) (k4 : h.k = 4) : h.keys.length = sub.len := by
  unfold headB at hh
  rw [k4] at hh
  simp at hh
  exact hh.1.2
set_option maxHeartbeats 8000000 in
set_option maxRecDepth 20000 in
theorem impl_textI : ∀ d : Nat, d ≤ 20 → TextI d := by
  intro d
  induction d with
  | zero => intro _ h sub a1 a2 c1 c2 w _ _ _ ho; rw [outB_zero] at ho; cases ho
  | succ d ih =>
    intro hd h sub a1 a2 c1 c2 w r1 r2 hc ho hp
    obtain ⟨_, hh, hok, hsz⟩ := outB_all ho
    rw [Nat.add_sub_cancel] at hok
    obtain ⟨V, hV⟩ : ∃ V, V = w.alloc (.cells #[.int .i64 h.k, .int .i64 h.n, .string h.t, .slice a1 h.keys.length c1, .slice a2 sub.len c2] 44) := ⟨_, rfl⟩
    have B0 : Below w.heap.size w V := by rw [hV]; exact (Below.refl _ _).alloc (Nat.le_refl _) _
    have c0 : V.heap[w.heap.size]? = some (.cells #[.int .i64 h.k, .int .i64 h.n, .string h.t, .slice a1 h.keys.length c1, .slice a2 sub.len c2] 44 (0, 0)) := by rw [hV]; exact heap_alloc_new _ _
    have x0 := fun o => row_cell c0 o
    have KV : Hid (∀ W, Below V.heap.size V W → KeRow 0 W.heap.size W a1 h.keys ∧ OuRow 0 W.heap.size W a2 sub ∧ Pow W ∧ Below w.heap.size w W) := fun W hW =>
      have hw := B0.trans (hW.mono B0.size)
      ⟨KeRow.up r1 hw, OuRow.up r2 hw, hp.up hw, hw⟩
    have IH : Hid (TextI d) := ih (by omega)
    have HH : Hid (headB h sub = true) := hh
    have HOK : Hid (okO d sub = true) := hok
    have hsz2 : sub.size ≤ 4000 := by omega
    clear r1 r2 ih c0 B0 ho hh hok hp
    go_enter Tryz.func65, Tryz.ntmps65
    go_upto_region 1 with fail
    rw [← hV]
    clear hV
    go_wp2_with fail
    refine (impl_held h sub a1 a2 c1 c2 _).mono ?_
    rintro e w1 ⟨rfl, hb1⟩
    obtain ⟨k1, k2, k3, k4⟩ := KV.out _ hb1
    have HK1 : Hid _ := k1
    have HK2 : Hid _ := k2
    have HK3 : Hid _ := k3
    have HBW : Hid _ := k4
    clear hb1 k1 k2 k3 k4 x0 KV
    by_cases k1 : h.k = 1
    · have HT : Hid (outT h sub = ⟨(Lib.itoa h.n).toArray⟩) := by unfold Hid outT valT; rw [if_neg (by omega), if_pos k1]
      have hn1 : -2147483648 ≤ h.n ∧ h.n ≤ 2147483647 := by
        have := HH.out
        unfold headB at this
        rw [if_neg (by omega), if_pos k1] at this
        simp only [Bool.and_eq_true] at this
        simpa [intO] using this.1.2
      have HV : Hid (heldV h sub a1 a2 c1 c2 = .iface 3 (.int .i64 h.n)) := by unfold Hid heldV; rw [if_pos k1]
      rw [HV.out]
      clear k1 HV
      have t1 := ta_int_int h.n w1
      go_wp2_with fail
      refine (itoa_any h.n _ (by omega) (by omega) HK3.out).mono ?_
      rintro e w2 ⟨rfl, hb2⟩
      have HB2 : Hid (Below w.heap.size w w2) := HBW.out.trans (hb2.mono HBW.out.size)
      clear hb2
      go_wp2_with fail
      go_ret
      exact ⟨by rw [HT.out]; rfl, HB2.out⟩
    by_cases k2 : h.k = 2
    · have HT : Hid (outT h sub = qd h.t) := by unfold Hid outT valT qd; rw [if_neg (by omega), if_neg k1, if_pos k2]
      have hn : h.t.size ≤ 40 := by
        have := HH.out
        unfold headB at this
        rw [if_neg (by omega), if_neg k1, if_pos k2] at this
        simp only [Bool.and_eq_true] at this
        exact name_size this.2
      have HV : Hid (heldV h sub a1 a2 c1 c2 = .iface 9 (.string h.t)) := by unfold Hid heldV; rw [if_neg k1, if_pos k2]
      rw [HV.out]
      clear k1 k2 HV
      have t1 := ta_str_int h.t w1
      have t2 := ta_str_str h.t w1
      go_wp2_with fail
      refine (impl_quoted h.t _ (by omega)).mono ?_
      rintro e w2 ⟨rfl, hw2⟩
      rw [hw2]
      clear hw2
      go_wp2_with fail
      go_ret
      exact ⟨by rw [HT.out]; rfl, HBW.out⟩
    by_cases k3 : h.k = 3
    · have HT : Hid (outT h sub = lisT (wordsO false [] sub)) := outT_list k3
      have HV : Hid (heldV h sub a1 a2 c1 c2 = .iface 42 (.slice a2 sub.len c2)) := by unfold Hid heldV; rw [if_neg k1, if_neg k2, if_pos k3]
      have HZ : Hid (sumW (wordsO false [] sub) ≤ 480000) := by
        have := words_size sub d false [] HOK.out (fun e => by cases e)
        unfold Hid; omega
      have HWL : Hid ((wordsO false [] sub).length = sub.len) := words_len _ _ _
      rw [HV.out]
      clear k1 k2 k3 HV
      have t1 := ta_lis_int a2 sub.len c2 w1
      have t2 := ta_lis_str a2 sub.len c2 w1
      have t3 := ta_lis_lis a2 sub.len c2 w1
      go_wp2_with fail
      refine (impl_texts d IH.out sub a2 c2 _ HK2.out HOK.out hsz2 HK3.out).mono ?_
      rintro e w2 ⟨a', rfl, hr2, hb2⟩
      have HB2 : Hid (Below w.heap.size w w2) := HBW.out.trans (hb2.mono HBW.out.size)
      have HQ := fun (W : World) (hr : KeRow 0 W.heap.size W a' (wordsO false [] sub)) => impl_list a' sub.len (wordsO false [] sub) W hr (by rw [HWL.out]; omega) (by have := HZ.out; omega)
      rw [HWL.out] at HQ
      have HQ2 : Hid _ := HQ
      have HR2 : Hid _ := hr2
      clear hb2 hr2 HQ
      go_wp2_with fail
      refine Calls.mono (HQ2.out _ HR2.out) ?_
      rintro e w3 ⟨rfl, hb3⟩
      have HB3 : Hid (Below w.heap.size w w3) := HB2.out.trans (hb3.mono HB2.out.size)
      clear hb3
      go_wp2_with fail
      go_ret
      exact ⟨by rw [HT.out]; rfl, HB3.out⟩
    by_cases k4 : h.k = 4
    · have HT : Hid (outT h sub = objT (wordsO true h.keys sub)) := outT_obj k4
      have HV : Hid (heldV h sub a1 a2 c1 c2 = .iface 135 (.agg #[.slice a1 h.keys.length c1, .slice a2 sub.len c2])) := by unfold Hid heldV; rw [if_neg k1, if_neg k2, if_neg k3, if_pos k4]
      have HKS : Hid (∀ k ∈ h.keys, k.size ≤ 40) := head_keys HH.out (by simp [k4])
      have HKL : Hid (h.keys.length = sub.len) := head_obj HH.out k4
      have HZ : Hid (sumW (wordsO true h.keys sub) ≤ 480000) := by
        have := words_size sub d true h.keys HOK.out (fun _ => HKS.out)
        unfold Hid; omega
      have HWL : Hid ((wordsO true h.keys sub).length = sub.len) := words_len _ _ _
      rw [HV.out]
      clear k1 k2 k3 k4 HV
      have t1 := ta_obj_int a1 a2 h.keys.length c1 sub.len c2 w1
      have t2 := ta_obj_str a1 a2 h.keys.length c1 sub.len c2 w1
      have t3 := ta_obj_lis a1 a2 h.keys.length c1 sub.len c2 w1
      have t4 := ta_obj_obj a1 a2 h.keys.length c1 sub.len c2 w1
      go_wp2_with fail
      refine (impl_pairs d IH.out sub h.keys a1 a2 c1 c2 _ (KeRow.up HK1.out ?bb) (OuRow.up HK2.out ?bb) HKL.out HKS.out HOK.out hsz2 (Pow.up HK3.out ?bb)).mono ?_
      case bb => exact (Below.refl _ _).alloc (Nat.le_refl _) _
      rintro e w2 ⟨a', rfl, hr2, hb2⟩
      have HB2 : Hid (Below w.heap.size w w2) := HBW.out.trans ((below_one hb2).mono HBW.out.size)
      have HQ := fun (W : World) (hr : KeRow 0 W.heap.size W a' (wordsO true h.keys sub)) => impl_object a' sub.len (wordsO true h.keys sub) W hr (by rw [HWL.out]; omega) (by have := HZ.out; omega)
      rw [HWL.out] at HQ
      have HQ2 : Hid _ := HQ
      have HR2 : Hid _ := hr2
      clear hb2 hr2 HQ
      go_wp2_with fail
      refine Calls.mono (HQ2.out _ HR2.out) ?_
      rintro e w3 ⟨rfl, hb3⟩
      have HB3 : Hid (Below w.heap.size w w3) := HB2.out.trans (hb3.mono HB2.out.size)
      clear hb3
      go_wp2_with fail
      go_ret
      exact ⟨by rw [HT.out]; rfl, HB3.out⟩
    have HT : Hid (outT h sub = ⟨#[110, 117, 108, 108]⟩) := by
      have := HH.out
      unfold headB at this
      unfold Hid outT valT
      by_cases k0 : h.k = 0
      · rw [if_pos k0]
      · rw [if_neg k0, if_neg k1, if_neg k2, if_neg k3, if_neg k4] at this; cases this
    have HV : Hid (heldV h sub a1 a2 c1 c2 = .nilIface) := by unfold Hid heldV; rw [if_neg k1, if_neg k2, if_neg k3, if_neg k4]
    rw [HV.out]
    clear k1 k2 k3 k4 HV
    have t1 := ta_nil_int w1
    have t2 := ta_nil_str w1
    have t3 := ta_nil_lis w1
    have t4 := ta_nil_obj w1
    go_wp2_with fail
    go_ret
    exact ⟨by rw [HT.out]; rfl, HBW.out⟩
/-- What OutText tells. -/
def outE (h : Oh) (sub : Ous) : Ending := if outB 20 h sub = true then .returned (.tuple #[.string (outT h sub), .int .i64 0]) else .returned (.tuple #[.string ⟨#[]⟩, .int .i64 1])
end Go.Proofs.YtnkaoeijcdchiaaGreatDoor.G
namespace Go.Proofs.YtnkaoeijcdchiaaGreatDoor.G
open Go.ChangeShapes Go.WideShapes Go.ChangeAt Go.RowKit
set_option linter.unusedVariables false

/-- Where the first point lies: none, or at i, and none ahead of it. -/
theorem index_at : ∀ l : List UInt8, (Lib.indexByte l 46 = -1 ∧ ∀ c ∈ l, c ≠ 46) ∨ ∃ p r, l = p ++ 46 :: r ∧ Lib.indexByte l 46 = p.length ∧ ∀ c ∈ p, c ≠ 46
  | [] => .inl ⟨rfl, by simp⟩
  | b :: l => by
    rw [Lib.indexByte]
    by_cases hb : b = 46
    · subst hb
      exact .inr ⟨[], l, rfl, by simp, by simp⟩
    · rw [if_neg (by simpa using hb)]
      rcases index_at l with ⟨h1, h2⟩ | ⟨p, r, rfl, h2, h3⟩
      · refine .inl ⟨by rw [h1]; rfl, ?_⟩
        intro c hc
        rcases List.mem_cons.1 hc with rfl | hc
        · exact hb
        · exact h2 c hc
      · refine .inr ⟨b :: p, r, rfl, ?_, ?_⟩
        · rw [h2, if_neg (by simp)]; simp
        · intro c hc
          rcases List.mem_cons.1 hc with rfl | hc
          · exact hb
          · exact h3 c hc
/-- What strings.Cut at a point answers. -/
def CutV (s part rest : ByteArray) (more : Bool) : Prop := (more = false ∧ part = s ∧ pathB s = partB s) ∨ (more = true ∧ pathB s = (partB part && pathB rest) ∧ rest.size < s.size ∧ part.size ≤ s.size)
theorem path_none {s : ByteArray} (h : ∀ c ∈ s.toList, c ≠ 46) : pathB s = partB s := by
  unfold pathB; rw [splitL_none h]; simp [partL_of]
theorem path_cut {s : ByteArray} {i : Nat} {p r : List UInt8} (hs : s.toList = p ++ 46 :: r) (hi : i = p.length) (hp : ∀ c ∈ p, c ≠ 46) : pathB s = (partB (s.extract 0 i) && pathB (s.extract (i + 1) s.size)) := by
  have hlen : s.size = p.length + (r.length + 1) := by have := congrArg List.length hs; rw [toList_len] at this; simpa using this
  have e1 : (s.extract 0 i).toList = p := by rw [toList_extract, hs, hi]; simp
  have e2 : (s.extract (i + 1) s.size).toList = r := by
    rw [toList_extract, hs, hi, show p ++ 46 :: r = (p ++ [46]) ++ r by simp, List.drop_left' (by simp), List.take_of_length_le (by omega)]
  unfold pathB
  rw [e2, hs, splitL_cut hp, List.all_cons, ← partL_of, e1]
set_option maxHeartbeats 2000000 in
theorem lite_cut (s : ByteArray) (w : World) (hs : s.size ≤ 1048576) :
    Calls Tryz.prog 139 #[.string s, .string ⟨#[46]⟩] w fun e w' => ∃ part rest more, e = .returned (.tuple #[.string part, .string rest, .bool more]) ∧ CutV s part rest more ∧ Below w.heap.size w w' := by
  have key := index_at s.toList
  rw [ByteArray.toList_eq] at key
  rcases key with ⟨h1, h2⟩ | ⟨p, r, h1, h2, h3⟩
  · have HC : Hid (pathB s = partB s) := path_none (by rw [ByteArray.toList_eq]; exact h2)
    have HI := Tryz.stringslite_Index_one s 46
    rw [h1] at HI
    clear h1 h2
    go_enter Tryz.func139, Tryz.ntmps139
    go_wp2_with fail
    refine (HI _).mono ?_
    rintro e w1 ⟨rfl, rfl⟩
    clear HI
    go_wp2_with fail
    go_ret3
    exact ⟨s, ⟨#[]⟩, false, rfl, .inl ⟨rfl, rfl, HC.out⟩, Below.refl _ _⟩
  · have hlen : s.size = p.length + (r.length + 1) := by have := congrArg List.length h1; simpa using this
    obtain ⟨i, hi⟩ : ∃ i, i = p.length := ⟨_, rfl⟩
    have HC : Hid (pathB s = (partB (s.extract 0 i) && pathB (s.extract (i + 1) s.size))) := path_cut (by rw [ByteArray.toList_eq]; exact h1) hi h3
    have HI := Tryz.stringslite_Index_one s 46
    rw [h2, ← hi] at HI
    have HII : Hid _ := HI
    have hi1 : i + 1 ≤ s.size := by omega
    have hi2 : (i : Int) + 1 ≤ s.size := by omega
    have hi3 : (i : Int) ≤ s.size := by omega
    have m1 : (⟨#[46]⟩ : ByteArray).size = 1 := rfl
    clear h1 h2 h3 HI hlen hi
    go_enter Tryz.func139, Tryz.ntmps139
    go_wp2_with fail
    refine (HII.out _).mono ?_
    rintro e w1 ⟨rfl, rfl⟩
    go_upto_region 3 with fail
    go_quiet (fail)
    go_wp2_with fail
    go_ret3
    refine ⟨s.extract 0 i, s.extract (i + 1) s.size, true, rfl, .inr ⟨rfl, HC.out, ?_, ?_⟩, ?_⟩
    · rw [ByteArray.size_extract]; omega
    · rw [ByteArray.size_extract]; omega
    · exact ⟨rfl, rfl, rfl, Nat.le_refl _, fun _ _ => rfl⟩
set_option maxHeartbeats 1000000 in
theorem str_cut (s : ByteArray) (w : World) (hs : s.size ≤ 1048576) :
    Calls Tryz.prog 118 #[.string s, .string ⟨#[46]⟩] w fun e w' => ∃ part rest more, e = .returned (.tuple #[.string part, .string rest, .bool more]) ∧ CutV s part rest more ∧ Below w.heap.size w w' := by
  go_enter Tryz.func118, Tryz.ntmps118
  go_wp2_with fail
  refine (lite_cut s _ hs).mono ?_
  rintro e w1 ⟨part, rest, more, rfl, hc, hb⟩
  have HC : Hid _ := hc
  have HB : Hid _ := hb
  clear hc hb
  go_wp2_with fail
  go_ret3
  exact ⟨part, rest, more, rfl, HC.out, HB.out⟩
theorem place_of (l : List UInt8) : placeB l = (decide (0 ≤ (numTok l).n) && tokB (numTok l).k (numTok l).n (numTok l).t) := by
  obtain ⟨h1, h2⟩ := tok_num l
  unfold placeB
  cases ht : tokB (numTok l).k (numTok l).n (numTok l).t
  · rw [h2 ht]; simp
  · rw [(h1 ht).1]; simp
theorem numTok_t (l : List UInt8) : (numTok l).t = ⟨#[]⟩ := by
  unfold numTok
  split
  · split <;> rfl
  · rfl
set_option maxHeartbeats 2000000 in
theorem impl_place (s : ByteArray) (w : World) (hs : s.size ≤ 1048576) (hv : Vars w) :
    Calls Tryz.prog 119 #[.string s] w fun e w' => e = .returned (.bool (placeB s.toList)) ∧ Below w.heap.size w w' := by
  have HV : Hid _ := hv
  have HP : Hid (placeB s.toList = (decide (0 ≤ (numTok s.toList).n) && tokB (numTok s.toList).k (numTok s.toList).n (numTok s.toList).t)) := place_of s.toList
  have htz : (numTok s.toList).t.size ≤ maxLen := by rw [numTok_t]; decide
  clear hv
  go_enter Tryz.func119, Tryz.ntmps119
  go_wp2_with fail
  refine (number_tok s _ hs HV.out).mono ?_
  rintro e w1 ⟨rfl, hb1⟩
  have HB1 : Hid _ := hb1
  clear hb1 HV
  generalize numTok s.toList = q at *
  obtain ⟨U, hU⟩ : ∃ X, X = w1.alloc (.cells #[.int .i64 q.k, .int .i64 q.n, .string q.t] 190) := ⟨_, rfl⟩
  have BU : Below w1.heap.size w1 U := by rw [hU]; exact (Below.refl _ _).alloc (Nat.le_refl _) _
  have c0 : U.heap[w1.heap.size]? = some (.cells #[.int .i64 q.k, .int .i64 q.n, .string q.t] 190 (0, 0)) := by rw [hU]; exact heap_alloc_new _ _
  have x0 := fun o => row_cell c0 o
  have HBU : Hid (Below w.heap.size w U) := HB1.out.trans (BU.mono HB1.out.size)
  clear BU c0
  by_cases hn : 0 ≤ q.n
  · have HF : Hid (tokB q.k q.n q.t = placeB s.toList) := by rw [Hid, HP.out, decide_eq_true hn]; rfl
    go_upto_region 2 with fail
    rw [← hU]
    clear hU
    go_wp2_with fail
    refine (impl_tokOK q.k q.n q.t _ htz).mono ?_
    rintro e w2 ⟨rfl, hb2⟩
    have HB2 : Hid (Below w.heap.size w w2) := HBU.out.trans (hb2.mono HBU.out.size)
    clear hb2 x0
    go_wp2_with fail
    go_ret
    exact ⟨ret_bool HF.out, HB2.out⟩
  · have HF : Hid (false = placeB s.toList) := by rw [Hid, HP.out, decide_eq_false hn]; rfl
    go_upto_region 2 with fail
    rw [← hU]
    clear hU
    go_wp2_with fail
    go_ret
    exact ⟨ret_bool HF.out, HBU.out⟩
def szV : Value → Nat | .string r => r.size | _ => 0
set_option maxHeartbeats 4000000 in
theorem impl_path (s : ByteArray) (w : World) (hs : s.size ≤ 1048576) (hv : Vars w) :
    Calls Tryz.prog 89 #[.string s] w fun e w' => e = .returned (.bool (pathB s)) ∧ Below w.heap.size w w' := by
  have HV : Hid (∀ W, Below w.heap.size w W → Vars W) := fun W hW => hv.up hW
  clear hv
  go_enter Tryz.func89, Tryz.ntmps89
  go_wp2_with fail
  go_loopw [0] (fun v w' => ∃ r : ByteArray, v = .string r ∧ r.size ≤ s.size ∧ Hid (Below w.heap.size w w') ∧ Hid (pathB s = pathB r)) (fun v _ => szV v)
  case atStart => exact ⟨s, rfl, Nat.le_refl _, Below.refl _ _, rfl⟩
  case round =>
    obtain ⟨wo, rfl⟩ : ∃ x, x = wr := ⟨_, rfl⟩
    obtain ⟨r, rfl, hr, HB, HD⟩ := hrel
    go_wp2_with fail
    refine (str_cut r _ (by omega)).mono ?_
    rintro e w1 ⟨part, rest, more, rfl, hc, hb1⟩
    have HB1 : Hid (Below w.heap.size w w1) := HB.out.trans (hb1.mono HB.out.size)
    clear hb1
    rcases hc with ⟨rfl, rfl, hcc⟩ | ⟨rfl, hcc, hlt, hpz⟩
    · cases hnb : nameB part
      · go_wp2_with fail
        refine (impl_nameOK part _ (by unfold maxLen; omega)).mono ?_
        rintro e w2 ⟨rfl, hb2⟩
        have HB2 : Hid (Below w.heap.size w w2) := HB1.out.trans (hb2.mono HB1.out.size)
        clear hb2
        rw [hnb]
        cases hpl : placeB part.toList
        · have HF : Hid (false = pathB s) := by rw [Hid, HD.out, hcc]; unfold partB; rw [hnb, hpl]; rfl
          go_wp2_with fail
          refine (impl_place part _ (by omega) (HV.out _ HB2.out)).mono ?_
          rintro e w3 ⟨rfl, hb3⟩
          have HB3 : Hid (Below w.heap.size w w3) := HB2.out.trans (hb3.mono HB2.out.size)
          clear hb3
          rw [hpl]
          go_wp2_with fail
          go_ret
          exact ⟨ret_bool HF.out, HB3.out⟩
        · have HF : Hid (true = pathB s) := by rw [Hid, HD.out, hcc]; unfold partB; rw [hnb, hpl]; rfl
          go_wp2_with fail
          refine (impl_place part _ (by omega) (HV.out _ HB2.out)).mono ?_
          rintro e w3 ⟨rfl, hb3⟩
          have HB3 : Hid (Below w.heap.size w w3) := HB2.out.trans (hb3.mono HB2.out.size)
          clear hb3
          rw [hpl]
          go_wp2_with fail
          go_ret
          exact ⟨ret_bool HF.out, HB3.out⟩
      · have HF : Hid (true = pathB s) := by rw [Hid, HD.out, hcc]; unfold partB; rw [hnb]; rfl
        go_wp2_with fail
        refine (impl_nameOK part _ (by unfold maxLen; omega)).mono ?_
        rintro e w2 ⟨rfl, hb2⟩
        have HB2 : Hid (Below w.heap.size w w2) := HB1.out.trans (hb2.mono HB1.out.size)
        clear hb2
        rw [hnb]
        go_wp2_with fail
        go_ret
        exact ⟨ret_bool HF.out, HB2.out⟩
    · cases hnb : nameB part
      · go_wp2_with fail
        refine (impl_nameOK part _ (by unfold maxLen; omega)).mono ?_
        rintro e w2 ⟨rfl, hb2⟩
        have HB2 : Hid (Below w.heap.size w w2) := HB1.out.trans (hb2.mono HB1.out.size)
        clear hb2
        rw [hnb]
        cases hpl : placeB part.toList
        · have HF : Hid (false = pathB s) := by rw [Hid, HD.out, hcc]; unfold partB; rw [hnb, hpl]; rfl
          go_wp2_with fail
          refine (impl_place part _ (by omega) (HV.out _ HB2.out)).mono ?_
          rintro e w3 ⟨rfl, hb3⟩
          have HB3 : Hid (Below w.heap.size w w3) := HB2.out.trans (hb3.mono HB2.out.size)
          clear hb3
          rw [hpl]
          go_wp2_with fail
          go_ret
          exact ⟨ret_bool HF.out, HB3.out⟩
        · have HF : Hid (pathB s = pathB rest) := by rw [Hid, HD.out, hcc]; unfold partB; rw [hnb, hpl]; rfl
          go_wp2_with fail
          refine (impl_place part _ (by omega) (HV.out _ HB2.out)).mono ?_
          rintro e w3 ⟨rfl, hb3⟩
          have HB3 : Hid (Below w.heap.size w w3) := HB2.out.trans (hb3.mono HB2.out.size)
          clear hb3
          rw [hpl]
          go_wp2_with fail
          exact ⟨⟨rest, rfl, by omega, HB3, HF⟩, hlt⟩
      · have HF : Hid (pathB s = pathB rest) := by rw [Hid, HD.out, hcc]; unfold partB; rw [hnb]; rfl
        go_wp2_with fail
        refine (impl_nameOK part _ (by unfold maxLen; omega)).mono ?_
        rintro e w2 ⟨rfl, hb2⟩
        have HB2 : Hid (Below w.heap.size w w2) := HB1.out.trans (hb2.mono HB1.out.size)
        clear hb2
        rw [hnb]
        go_wp2_with fail
        exact ⟨⟨rest, rfl, by omega, HB2, HF⟩, hlt⟩
set_option maxHeartbeats 2000000 in
theorem impl_paths (a : Option Addr) (c : Nat) (ps : List ByteArray) (w : World) (hp : KeRow 0 w.heap.size w a ps) (hz : sumW ps ≤ 1048576) (hv : Vars w) :
    Calls Tryz.prog 62 #[.slice a ps.length c] w fun e w' => e = .returned (.bool (pathsB ps)) ∧ Below w.heap.size w w' := by
  have HV : Hid (∀ W, Below w.heap.size w W → Vars W ∧ KeRow 0 W.heap.size W a ps) := fun W hW => ⟨hv.up hW, KeRow.up hp hW⟩
  have HZ : Hid _ := hz
  have hln := len_sumW ps
  have hln2 : ps.length ≤ 1048576 := by omega
  clear hv hp hz hln
  go_enter Tryz.func62, Tryz.ntmps62
  go_wp2_with fail
  go_loopw [7] (fun i w' => ∃ k : Nat, k ≤ ps.length ∧ i = .int .i64 k ∧ Hid (Below w.heap.size w w') ∧ Hid (pathsB ps = (ps.drop k).all pathB)) (fun i _ => ps.length - (intOf i).toNat)
  case atStart => exact ⟨0, by omega, rfl, Below.refl _ _, rfl⟩
  case round =>
    obtain ⟨wo, rfl⟩ : ∃ x, x = wr := ⟨_, rfl⟩
    obtain ⟨k, hk, rfl, HB, HD⟩ := hrel
    obtain ⟨q1, q5⟩ := HV.out _ HB.out
    by_cases hlt : k < ps.length
    · obtain ⟨b, o, ha, _, hbl, ck⟩ := KeRow.cells q5 k hlt
      have hkz : ps[k].size ≤ 1048576 := by have := mem_sumW (List.getElem_mem hlt); have := HZ.out; omega
      have HD1 : Hid (pathsB ps = (pathB ps[k] && (ps.drop (k + 1)).all pathB)) := by rw [Hid, HD.out, List.drop_eq_getElem_cons hlt, List.all_cons]
      have Q1 : Hid _ := q1
      have hlt' : (k : Int) < ps.length := by omega
      subst ha
      clear q1 q5 HD
      go_wp2_with fail
      refine (impl_path ps[k] _ hkz Q1.out).mono ?_
      rintro e w2 ⟨rfl, hb2⟩
      have HB2 : Hid (Below w.heap.size w w2) := HB.out.trans (hb2.mono HB.out.size)
      clear hb2
      cases hpk : pathB ps[k]
      · have HF : Hid (false = pathsB ps) := by rw [Hid, HD1.out, hpk]; rfl
        go_wp2_with fail
        go_ret
        exact ⟨ret_bool HF.out, HB2.out⟩
      · have HF : Hid (pathsB ps = (ps.drop (k + 1)).all pathB) := by rw [Hid, HD1.out, hpk]; rfl
        go_wp2_with fail
        exact ⟨⟨k + 1, by omega, by go_num, HB2, HF⟩, by simp [intOf]; omega⟩
    · obtain rfl : k = ps.length := by omega
      have HE : Hid (true = pathsB ps) := by rw [Hid, HD.out, List.drop_length]; rfl
      clear q1 q5
      go_wp2_with fail
      go_ret
      exact ⟨ret_bool HE.out, HB.out⟩
end Go.Proofs.YtnkaoeijcdchiaaGreatDoor.G
