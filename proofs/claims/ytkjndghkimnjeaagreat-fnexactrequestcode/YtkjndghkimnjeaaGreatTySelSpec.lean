/- CheckTypes: the specification's going through selections. -/
import Derived.Test.YtkjndghkimnjeaaGreatGRegionTwo
import Derived.Deep.RegionWith
import Derived.Deep.CutRange
namespace Go.Proofs.YtkjndghkimnjeaaGreat
open Go.ChangeShapes Go.WideShapes Go.ChangeAt Go.RowKit
set_option linter.unusedVariables false

/-- What the specification goes by: the schema and the document. -/
structure Sd (w : World) (aS : Option Addr) (S : List G.Td) (aD : Option Addr) (D : List De) : Prop where
  rs : G.TdRow 0 w.heap.size w aS S
  rd : DeRow 0 w.heap.size w aD D
theorem Sd.up {w w' : World} {aS : Option Addr} {S : List G.Td} {aD : Option Addr} {D : List De} (h : Sd w aS S aD D) (hb : Below w.heap.size w w') : Sd w' aS S aD D := ⟨G.TdRow.up h.rs hb, DeRow.up h.rd hb⟩
def SpS (S : List G.Td) (D : List De) (s : Sels) : Prop := ∀ (d : Nat) (n : ByteArray) (t : G.Td) (a' : Option Addr) (c' : Nat) (aS : Option Addr) (cS : Nat) (aD : Option Addr) (cD : Nat) (w : World), (s.isNil = true ∨ (n = t.nm ∧ tdIn S t.nm = some t)) → Sd w aS S aD D → SelRow 0 w.heap.size w a' s → s.len ≤ 1048576 → SelsBd 1048576 s → okS d s = true →
    Calls Tryz.prog 77 #[.agg #[.slice aS S.length cS], .agg #[.slice aD D.length cD], .string n, .slice a' s.len c'] w fun e w' => e = .returned (.int .i64 (setC S D t s)) ∧ Below w.heap.size w w'

theorem fi_idx {ns : List ByteArray} (hO : G.OkN ns) {j : Nat} (hj : j < ns.length) {r : Int} (h : G.Fi ns ns[j] r) : r = j := by
  rcases h.at_ hj with ⟨h1, _⟩ | ⟨_, h2⟩
  · exact h1
  · rw [(hO j hj).2] at h2; cases h2
theorem fld_not {t : G.Td} {n : ByteArray} (h : isTn n = false) : fldOf t n = t.fs.find? fun f => f.nm.toList == n.toList := by unfold fldOf; rw [if_neg (by rw [h]; simp)]
def PF (N Z : Nat) (aS : Option Addr) (n cS : Nat) (nm : ByteArray) (j : Nat) (p : Addr) (tv : Value) (i : Nat) (v : Value) (wx : World) : Prop :=
  match i with
  | 0 => v = .pointer (some ⟨N, 0, none⟩)
  | 1 => v = .slice aS n cS
  | 2 => v = .agg #[.slice aS n cS]
  | 3 => v = .string nm
  | 4 => v = .int .i64 j
  | 5 => v = .pointer (some p)
  | 6 => v = tv
  | 7 => ∃ B, v = .pointer (some ⟨B, 0, none⟩) ∧ Z ≤ B ∧ wx.heap[B]? = some (.cells #[.string ⟨#[]⟩, .slice none 0 0] 93 (0, 0))
  | _ => True
theorem PF.up (N Z : Nat) (aS : Option Addr) (n cS : Nat) (nm : ByteArray) (j : Nat) (p : Addr) (tv : Value) : ∀ i v w w', PF N Z aS n cS nm j p tv i v w → Below w.heap.size w w' → PF N Z aS n cS nm j p tv i v w' := by
  intro i v w w' h hb
  unfold PF at h ⊢
  split at h
  · exact h
  · exact h
  · exact h
  · exact h
  · exact h
  · exact h
  · exact h
  · obtain ⟨B, h1, h2, h3⟩ := h; exact ⟨B, h1, h2, (hb.block _ (Array.getElem?_eq_some_iff.1 h3).1).trans h3⟩
  · trivial
def dstF (i : Nat) : Nat := if i = 7 then 13 else 84 + i
theorem dstF_one : ∀ i j, i < 8 → j < 8 → dstF i = dstF j → i = j := by
  intro i j hi hj h; unfold dstF at h; split at h <;> split at h <;> omega
/-- Values that are known ahead. -/
def PEq (val : Nat → Value) (i : Nat) (v : Value) (w : World) : Prop := v = val i
theorem PEq.up (val : Nat → Value) : ∀ i v w w', PEq val i v w → Below w.heap.size w w' → PEq val i v w' := fun _ _ _ _ h _ => h

set_option maxHeartbeats 16000000 in
set_option maxRecDepth 60000 in
theorem spec_one (S : List G.Td) (D : List De) (hSOK : G.SchOK S) (hSB : G.TdsBd 1048576 S) (hDB : DefsBd 1048576 D) (h : Hd) (sub : Sels) (IS : SpS S D sub) (d : Nat) (t : G.Td) (a1 a2 a3 : Option Addr) (c1 c2 c3 : Nat) (aS : Option Addr) (cS : Nat) (aD : Option Addr) (cD : Nat) (w : World)
    (ht : tdIn S t.nm = some t) (hsd : Sd w aS S aD D) (r1 : ArRow 0 w.heap.size w a1 h.args) (r2 : DiRow 0 w.heap.size w a2 h.dirs) (r3 : SelRow 0 w.heap.size w a3 sub) (hb : HdBd 1048576 h) (hl : sub.len ≤ 1048576) (hsb : SelsBd 1048576 sub) (hh : hdB h sub.isNil = true) (hok : okS d sub = true) :
    Calls Tryz.prog 107 #[.agg #[.slice aS S.length cS], .agg #[.slice aD D.length cD], .string t.nm, selV h sub.len a1 c1 a2 c2 a3 c3] w fun e w' => e = .returned (.int .i64 (oneC S D t h sub)) ∧ Below w.heap.size w w' := by
  have HSOK : Hid (G.SchOK S) := hSOK
  have HSB : Hid (G.TdsBd 1048576 S) := hSB
  have HDB : Hid (DefsBd 1048576 D) := hDB
  have HIS : Hid (SpS S D sub) := IS
  have HT : Hid (tdIn S t.nm = some t) := ht
  have K0 : Hid (∀ W0, Below w.heap.size w W0 → Sd W0 aS S aD D) := fun W0 hB => hsd.up hB
  have K0r : Hid (∀ W0, Below w.heap.size w W0 → G.TdRow 0 w.heap.size W0 aS S) := fun W0 hB => G.TdRow.keep hsd.rs (G.agree hB (Nat.le_refl _))
  have K1 : Hid (∀ W0, Below w.heap.size w W0 → ArRow 0 W0.heap.size W0 a1 h.args) := fun W0 hB => Row.up r1 hB
  have K2 : Hid (∀ W0, Below w.heap.size w W0 → DiRow 0 w.heap.size W0 a2 h.dirs) := fun W0 hB => Row.keep r2 (Below.agree hB (Nat.le_refl _))
  have K3 : Hid (∀ W0, Below w.heap.size w W0 → SelRow 0 W0.heap.size W0 a3 sub) := fun W0 hB => SelRow.up r3 hB
  have HSBD : Hid (SelsBd 1048576 sub) := hsb
  have HH : Hid (hdB h sub.isNil = true) := hh
  have HOKS : Hid (okS d sub = true) := hok
  obtain ⟨b1, b2, b3, b4, b5, b6⟩ := hb
  clear hSOK hSB hDB IS ht hsd r1 r2 r3 hsb hh hok b4 b6
  unfold selV
  go_enter Tryz.func107, Tryz.ntmps107
  go_wp2_with fail
  obtain ⟨W, hW⟩ : ∃ W, W = ((w.alloc (.cells #[.slice aS S.length cS] 59)).alloc (.cells #[.slice aD D.length cD] 33)).alloc (.cells #[.int .i64 h.k, .string h.al, .string h.nm, .slice a1 h.args.length c1, .slice a2 h.dirs.length c2, .slice a3 sub.len c3] 115) := ⟨_, rfl⟩
  rw [← hW]
  have zW : W.heap.size = w.heap.size + 3 := by rw [hW]; simp
  have B0 : Hid (Below w.heap.size w W) := by rw [hW]; exact (((Below.refl _ _).alloc (Nat.le_refl _) _).alloc (by simp) _).alloc (by simp; omega) _
  have A0 : Hid (W.heap[w.heap.size]? = some (.cells #[.slice aS S.length cS] 59 (0, 0))) := by rw [Hid, hW, Below.heap_alloc _ _ _ (by simp; omega), Below.heap_alloc _ _ _ (by simp)]; exact heap_alloc_new _ _
  have A1 : Hid (W.heap[w.heap.size + 1]? = some (.cells #[.slice aD D.length cD] 33 (0, 0))) := by
    rw [Hid, hW, Below.heap_alloc _ _ _ (by simp)]
    have := heap_alloc_new (w.alloc (.cells #[.slice aS S.length cS] 59)) (.cells #[.slice aD D.length cD] 33)
    simpa using this
  have A2 : Hid (W.heap[w.heap.size + 1 + 1]? = some (.cells #[.int .i64 h.k, .string h.al, .string h.nm, .slice a1 h.args.length c1, .slice a2 h.dirs.length c2, .slice a3 sub.len c3] 115 (0, 0))) := by
    rw [Hid, hW]
    have := heap_alloc_new ((w.alloc (.cells #[.slice aS S.length cS] 59)).alloc (.cells #[.slice aD D.length cD] 33)) (.cells #[.int .i64 h.k, .string h.al, .string h.nm, .slice a1 h.args.length c1, .slice a2 h.dirs.length c2, .slice a3 sub.len c3] 115)
    simpa using this
  clear hW
  go_loopw [9] (fun i w' => ∃ (k : Nat), k ≤ h.dirs.length ∧ i = .int .i64 k ∧ Hid (Below W.heap.size W w') ∧ Hid ((h.dirs.take k).all dirB = true)) (fun i _ => h.dirs.length - (intOf i).toNat)
  case atStart => exact ⟨0, by omega, rfl, Below.refl _ _, rfl⟩
  case round =>
    obtain ⟨k, hk, rfl, HK, HA⟩ := hrel
    have zr := HK.out.size
    have QR : Hid (Below w.heap.size w wr) := B0.out.trans (HK.out.mono (by omega))
    have q2 := fun o => row_cell ((HK.out.block (w.heap.size + 1 + 1) (by omega)).trans A2.out) o
    by_cases hlt : k < h.dirs.length
    case pos =>
      obtain ⟨b, o, ha, _, hbl, d0, d1, d2, d3⟩ := (K2.out _ QR.out).cells_di k hlt
      subst ha
      have WA : Hid (∀ ob, Below W.heap.size W (wr.alloc ob)) := fun ob => HK.out.alloc (by omega) _
      have QA : Hid (∀ ob, Below w.heap.size w (wr.alloc ob)) := fun ob => QR.out.alloc (by omega) _
      cases h2 : (h.dirs[k].v.k == 2)
      case true =>
        have n2 : (h.dirs[k].v.k != 2) = false := by simp [bne, h2]
        go_wp2_with fail
        exact ⟨⟨k + 1, by omega, by go_num, WA.out _, all_next hlt HA.out (by unfold dirB; rw [h2]; rfl)⟩, by simp [intOf]; omega⟩
      have n2 : (h.dirs[k].v.k != 2) = true := by simp [bne, h2]
      cases h4 : (h.dirs[k].v.k == 4)
      case true =>
        have n4 : (h.dirs[k].v.k != 4) = false := by simp [bne, h4]
        go_wp2_with fail
        exact ⟨⟨k + 1, by omega, by go_num, WA.out _, all_next hlt HA.out (by unfold dirB; rw [h2, h4]; rfl)⟩, by simp [intOf]; omega⟩
      have n4 : (h.dirs[k].v.k != 4) = true := by simp [bne, h4]
      have HN : Hid (10 = oneC S D t h sub) := one_no (sel_dirs (all_no hlt (by unfold dirB; rw [h2, h4]; rfl))) (by decide)
      go_wp2_with fail
      go_ret
      exact ⟨ret_i HN.out, QA.out _⟩
    have HD : Hid (h.dirs.all dirB = true) := by have := HA.out; rwa [List.take_of_length_le (by omega)] at this
    have q0 := fun o => row_cell ((HK.out.block w.heap.size (by omega)).trans A0.out) o
    have q1 := fun o => row_cell ((HK.out.block (w.heap.size + 1) (by omega)).trans A1.out) o
    have snm : h.nm.size ≤ maxLen := by unfold maxLen; omega
    clear HA
    rcases hd_kind HH.out with hk1 | ⟨hk2 | hk3, hargs⟩
    · rw [hk1] at q2
      have HK1 : Hid (h.k = 1) := hk1
      clear hk1
      cases htn : (h.nm.toList == [95, 95, 116, 121, 112, 101, 110, 97, 109, 101]) with
      | true =>
        have HSC : Hid (selC D t h sub.isNil = if h.args.isEmpty = false then 10 else if sub.isNil = false then 11 else 0) := by rw [Hid, sel_fld HD.out HK1.out (fld_tn htn), fldC_tn]
        by_cases ha0 : 0 < h.args.length
        · have HN : Hid (10 = oneC S D t h sub) := one_no (by rw [HSC.out, if_pos (by cases hc : h.args with | nil => rw [hc] at ha0; simp at ha0 | cons _ _ => rfl)]) (by decide)
          go_wp2_with fail
          go_ret
          exact ⟨ret_i HN.out, QR.out⟩
        have hae : h.args.isEmpty = true := by cases hc : h.args with | nil => rfl | cons _ _ => rw [hc] at ha0; simp at ha0
        by_cases hs0 : 0 < sub.len
        · have HN : Hid (11 = oneC S D t h sub) := one_no (by rw [HSC.out, hae, if_neg (by simp), if_pos (by rw [Sels.isNil_len, decide_eq_false (by omega)])]) (by decide)
          go_wp2_with fail
          go_ret
          exact ⟨ret_i HN.out, QR.out⟩
        · have hnil : sub.isNil = true := by rw [Sels.isNil_len, decide_eq_true (by omega)]
          have HN : Hid (0 = oneC S D t h sub) := by rw [Hid, one_yes (by rw [HSC.out, hae, hnil]; rfl), setC_nil _ _ _ hnil]
          go_wp2_with fail
          go_ret
          exact ⟨ret_i HN.out, QR.out⟩
      | false =>
        have htm := List.mem_of_find?_eq_some HT.out
        obtain ⟨j, hj, htj⟩ := List.getElem_of_mem htm
        obtain ⟨bS, oS, at_, ct, hA, _, hbS, t0, t1, rt⟩ := G.TdRow.cells (K0r.out _ QR.out) j hj
        rw [htj] at t0 t1 rt
        have HTB : Hid (G.TdBd 1048576 t) := HSB.out.2 t htm
        have HTO : Hid (G.TdOK (S.map G.Td.nm) t) := HSOK.out.2.2.2.2.2 t htm
        have HRT : Hid (G.FdRow 0 w.heap.size wr at_ t.fs) := rt
        have hfl : t.fs.length ≤ 1048576 := HTB.out.2.1
        have hSl : S.length ≤ 1048576 := HSB.out.1
        have hjI : (j : Int) < S.length := by omega
        have HJX : Hid (∀ r, G.Fi (S.map G.Td.nm) t.nm r → r = j) := fun r hFi => fi_idx HSOK.out.2.2.2.2.1 (j := j) (by simpa using hj) (by rw [show (S.map G.Td.nm)[j]'(by simpa using hj) = t.nm by simp [htj]]; exact hFi)
        have HA2 : Hid (aS = some ⟨bS, oS, none⟩) := hA
        clear rt htm hA htj
        go_wp2_with fail
        refine G.region_rel (n := 8) (by kernel_rfl) (by kernel_rfl) (by kernel_rfl) (fun u => ⟨#[.agg #[.slice aS S.length cS], .agg #[.slice aD D.length cD], .string t.nm, .agg #[.int .i64 h.k, .string h.al, .string h.nm, .slice a1 h.args.length c1, .slice a2 h.dirs.length c2, .slice a3 sub.len c3], .pointer (some ⟨w.heap.size, 0, none⟩), .pointer (some ⟨w.heap.size + 1, 0, none⟩), undef, .pointer (some ⟨w.heap.size + 1 + 1, 0, none⟩), u8, .int .i64 k, u10, undef, undef, u 13, undef, undef, .int .i64 k, .pointer (some ⟨w.heap.size + 1 + 1, 4, none⟩), .slice a2 h.dirs.length c2, .int .i64 h.dirs.length, .bool false, u21, u22, u23, u24, u25, u26, u27, u28, u29, u30, u31, u32, u33, u34, u35, u36, .pointer (some ⟨w.heap.size + 1 + 1, 0, none⟩), .int .i64 1, .bool false, .bool false, undef, undef, undef, undef, undef, undef, undef, undef, undef, undef, undef, undef, undef, undef, undef, .bool false, .bool false, undef, undef, undef, undef, undef, undef, undef, undef, undef, undef, undef, undef, undef, undef, undef, .pointer (some ⟨w.heap.size + 1 + 1, 2, none⟩), .string h.nm, .bool false, undef, undef, undef, undef, undef, undef, undef, undef, u 84, u 85, u 86, u 87, u 88, u 89, u 90, undef, undef, undef, undef, undef, undef, undef, undef, undef, undef, undef, undef, undef, undef, undef, undef, undef, undef, undef, undef, undef, undef, undef, undef, undef, undef, undef, undef, undef, undef, undef, undef, undef, undef, undef, undef, undef, undef, undef, undef], []⟩) (fun _ => undef) dstF dstF_one (PF w.heap.size wr.heap.size aS S.length cS t.nm j ⟨bS, oS + j * 2, none⟩ (.agg #[.string t.nm, .slice at_ t.fs.length ct])) (fun _ _ => True) (PF.up _ _ _ _ _ _ _ _ _) trivial ?step ?last
        case step =>
          intro u w2 i hi hbw _ hdep
          have zw2 := hbw.size
          have y0 := fun o => row_cell ((hbw.block w.heap.size (by omega)).trans ((HK.out.block w.heap.size (by omega)).trans A0.out)) o
          have x0 := (hbw.cell (p := ⟨bS, oS + j * 2, none⟩) (show bS < wr.heap.size by omega)).trans t0
          have x1 := (hbw.cell (p := ⟨bS, oS + j * 2 + 1, none⟩) (show bS < wr.heap.size by omega)).trans t1
          have HBw : Hid (Below w.heap.size w w2) := QR.out.trans (hbw.mono (by omega))
          clear hbw
          have hcase : i = 0 ∨ i = 1 ∨ i = 2 ∨ i = 3 ∨ i = 4 ∨ i = 5 ∨ i = 6 ∨ i = 7 := by omega
          rcases hcase with rfl | rfl | rfl | rfl | rfl | rfl | rfl | rfl
          · refine wpOp_step rfl (fun K hK => ?_)
            clear hdep
            go_simp
            exact hK _ _ ⟨_, rfl, Below.refl _ _, rfl, trivial⟩
          · have d0 : u 84 = .pointer (some ⟨w.heap.size, 0, none⟩) := hdep _ rfl ⟨0, .data⟩ (by simp) rfl
            refine wpOp_step rfl (fun K hK => ?_)
            clear hdep
            go_simp
            exact hK _ _ ⟨_, by simp [G.upd, dstF, d0], Below.refl _ _, rfl, trivial⟩
          · refine wpOp_step rfl (fun K hK => ?_)
            clear hdep
            go_simp
            exact hK _ _ ⟨_, rfl, Below.refl _ _, rfl, trivial⟩
          · refine wpOp_step rfl (fun K hK => ?_)
            clear hdep
            go_simp
            exact hK _ _ ⟨_, rfl, Below.refl _ _, rfl, trivial⟩
          · have d2 : u 86 = .agg #[.slice aS S.length cS] := hdep _ rfl ⟨2, .data⟩ (by simp) rfl
            have d3 : u 87 = .string t.nm := hdep _ rfl ⟨3, .data⟩ (by simp) rfl
            refine wpOp_step rfl (fun K hK => ?_)
            clear hdep
            go_simp
            refine (G.spec_find aS cS S t.nm _ (K0.out _ HBw.out).rs hSl).mono ?_
            rintro e w8 ⟨r, rfl, hFi, hb8⟩
            have hrj := HJX.out r hFi
            subst hrj
            exact hK _ _ ⟨.int .i64 j, by simp [G.upd, dstF, d2, d3], hb8, rfl, trivial⟩
          · have d1 : u 85 = .slice aS S.length cS := hdep _ rfl ⟨1, .data⟩ (by simp) rfl
            have d4 : u 88 = .int .i64 j := hdep _ rfl ⟨4, .data⟩ (by simp) rfl
            rw [HA2.out] at d1
            refine wpOp_step rfl (fun K hK => ?_)
            clear hdep
            go_simp
            exact hK _ _ ⟨.pointer (some ⟨bS, oS + j * 2, none⟩), by simp [G.upd, dstF, d1, d4], Below.refl _ _, rfl, trivial⟩
          · have d5 : u 89 = .pointer (some ⟨bS, oS + j * 2, none⟩) := hdep _ rfl ⟨5, .data⟩ (by simp) rfl
            refine wpOp_step rfl (fun K hK => ?_)
            clear hdep
            go_simp
            exact hK _ _ ⟨_, by simp [G.upd, dstF, d5], Below.refl _ _, rfl, trivial⟩
          · refine wpOp_step rfl (fun K hK => ?_)
            clear hdep
            go_simp
            exact hK _ _ ⟨.pointer (some ⟨w2.heap.size, 0, none⟩), rfl, (Below.refl _ _).alloc (Nat.le_refl _) _, ⟨w2.heap.size, rfl, zw2, heap_alloc_new _ _⟩, trivial⟩
        case last =>
          intro u w2 hbw _ hp
          have p7 : PF w.heap.size wr.heap.size aS S.length cS t.nm j ⟨bS, oS + j * 2, none⟩ (.agg #[.string t.nm, .slice at_ t.fs.length ct]) 7 (u 13) w2 := hp 7 (by omega)
          have d6 : u 90 = .agg #[.string t.nm, .slice at_ t.fs.length ct] := hp 6 (by omega)
          obtain ⟨B, e1, e2, e3⟩ := p7
          have cB := fun o => row_cell e3 o
          have fB := fun o => row_frozen e3 o
          have zw2 := hbw.size
          have Bw2 : Hid (Below wr.heap.size wr w2) := hbw
          have E3 : Hid (w2.heap[B]? = some (.cells #[.string ⟨#[]⟩, .slice none 0 0] 93 (0, 0))) := e3
          clear hp hbw e3
          refine wpOp_step rfl (fun K hK => ?_)
          go_simp
          refine hK _ _ ?_
          clear hK K
          obtain ⟨X, hX⟩ : ∃ X, X = (w2.setCell ⟨B, 0, none⟩ (.string t.nm)).setCell ⟨B, 1, none⟩ (.slice at_ t.fs.length ct) := ⟨_, rfl⟩
          rw [← hX]
          have zX : X.heap.size = w2.heap.size := by rw [hX]; simp
          have BX : Hid (Below wr.heap.size wr X) := by rw [hX]; exact (Bw2.out.setCell (p := ⟨B, 0, none⟩) e2 _).setCell (p := ⟨B, 1, none⟩) e2 _
          have XB : Hid (X.heap[B]? = some (.cells #[.string t.nm, .slice at_ t.fs.length ct] 93 (0, 0))) := by
            rw [Hid, hX]
            have := row_set (row_set E3.out 0 (.string t.nm)) 1 (.slice at_ t.fs.length ct)
            simpa using this
          have QX : Hid (Below w.heap.size w X) := QR.out.trans (BX.out.mono (by omega))
          have WX : Hid (Below W.heap.size W X) := HK.out.trans (BX.out.mono (by omega))
          have xB := fun o => row_cell XB.out o
          have x2 := fun o => row_cell ((WX.out.block (w.heap.size + 1 + 1) (by omega)).trans A2.out) o
          have RTX : Hid (G.FdRow 0 w.heap.size X at_ t.fs) := G.FdRow.keep HRT.out (G.agree BX.out (by omega))
          clear hX cB fB E3 Bw2 q0 q1 q2
          go_wp2_with fail
          refine (G.spec_field t at_ ct h.nm _ (G.FdRow.wide RTX.out (Nat.le_refl _) (by omega)) hfl).mono ?_
          rintro e w3 ⟨r, rfl, hFi, hb3⟩
          have z3 := hb3.size
          have B3 : Hid (Below X.heap.size X w3) := hb3
          have Q3 : Hid (Below w.heap.size w w3) := QX.out.trans (hb3.mono (by omega))
          have RT3 : Hid (G.FdRow 0 w.heap.size w3 at_ t.fs) := G.FdRow.keep RTX.out (G.agree hb3 (by omega))
          clear hb3 xB x2
          rcases hFi with ⟨rfl, hs⟩ | ⟨n, hn, rfl, he, hs⟩
          · have HN : Hid (9 = oneC S D t h sub) := one_no (sel_none HD.out HK1.out (by rw [fld_not htn]; exact fi_none hs)) (by decide)
            clear hs
            go_wp2_with fail
            go_ret
            exact ⟨ret_i HN.out, Q3.out⟩
          obtain ⟨hn', hfind⟩ := fi_find hn he hs
          obtain ⟨f, hf⟩ : ∃ f, f = t.fs[n] := ⟨_, rfl⟩
          have HFO : Hid (fldOf t h.nm = some f) := by rw [Hid, fld_not htn, hfind, hf]
          have hfm : f ∈ t.fs := by rw [hf]; exact List.getElem_mem hn'
          have HFB : Hid (G.FdBd 1048576 f) := HTB.out.2.2 f hfm
          have HFK : Hid (G.FdOK (S.map G.Td.nm) f) := HTO.out.2.2.2.2 f hfm
          obtain ⟨bt, ot, af, cf, hAt, _, hbt, g0, g1, g2, g3, g4, rf⟩ := G.FdRow.cells RT3.out n hn'
          rw [← hf] at g0 g1 g2 g3 g4 rf
          have HAt : Hid (at_ = some ⟨bt, ot, none⟩) := hAt
          have RFx : G.AgRow 0 w.heap.size w af f.args := G.AgRow.keep rf (fun g h1 h2 => (Q3.out.block g h2).symm)
          have hnI : (n : Int) < t.fs.length := by omega
          have hn0 : ¬ ((n : Int) < 0) := by omega
          have HBX : Hid (B < X.heap.size) := (Array.getElem?_eq_some_iff.1 XB.out).1
          clear hn he hs hfind hfm hAt rf hf
          go_wp2_with fail
          obtain ⟨z, hz⟩ : ∃ z, z = argC f h.args := ⟨_, rfl⟩
          have HZ : Hid (z = argC f h.args) := hz
          have HSC : Hid (selC D t h sub.isNil = if z = 0 then (if (G.isIn f.ty != sub.isNil) = true then 11 else 0) else z) := by rw [Hid, sel_fld HD.out HK1.out HFO.out, fldC_args, hz]
          have RFw : Hid (G.AgRow 0 w.heap.size w af f.args) := RFx
          clear hz
          refine G.region_rel (n := 8) (by kernel_rfl) (by kernel_rfl) (by kernel_rfl) (fun ub => ⟨#[.agg #[.slice aS S.length cS], .agg #[.slice aD D.length cD], .string t.nm, .agg #[.int .i64 h.k, .string h.al, .string h.nm, .slice a1 h.args.length c1, .slice a2 h.dirs.length c2, .slice a3 sub.len c3], .pointer (some ⟨w.heap.size, 0, none⟩), .pointer (some ⟨w.heap.size + 1, 0, none⟩), undef, .pointer (some ⟨w.heap.size + 1 + 1, 0, none⟩), u8, .int .i64 k, u10, undef, undef, .pointer (some ⟨B, 0, none⟩), .int .i64 n, undef, .int .i64 k, .pointer (some ⟨w.heap.size + 1 + 1, 4, none⟩), .slice a2 h.dirs.length c2, .int .i64 h.dirs.length, .bool false, u21, u22, u23, u24, u25, u26, u27, u28, u29, u30, u31, u32, u33, u34, u35, u36, .pointer (some ⟨w.heap.size + 1 + 1, 0, none⟩), .int .i64 1, .bool false, .bool false, undef, undef, undef, undef, undef, undef, undef, undef, undef, undef, undef, undef, undef, undef, undef, .bool false, .bool false, undef, undef, undef, undef, undef, undef, undef, undef, undef, undef, undef, undef, undef, undef, undef, .pointer (some ⟨w.heap.size + 1 + 1, 2, none⟩), .string h.nm, .bool false, undef, undef, undef, undef, undef, undef, undef, undef, u 84, u 85, u 86, u 87, u 88, u 89, .agg #[.string t.nm, .slice at_ t.fs.length ct], .agg #[.string t.nm, .slice at_ t.fs.length ct], .pointer (some ⟨w.heap.size + 1 + 1, 2, none⟩), .string h.nm, .int .i64 n, .int .i64 n, .bool (decide (n < 0)), ub 97, ub 98, ub 99, ub 100, ub 101, ub 102, ub 103, ub 104, undef, undef, undef, undef, undef, undef, undef, undef, undef, undef, undef, undef, undef, undef, undef, undef, undef, undef, undef, undef, undef, undef, undef, undef, undef, undef], []⟩) (fun _ => undef) (fun i => 97 + i) (fun i j _ _ h => by omega) (PEq (fun i => match i with | 0 => .pointer (some ⟨B, 1, none⟩) | 1 => .slice at_ t.fs.length ct | 2 => .int .i64 n | 3 => .pointer (some ⟨bt, ot + n * 5, none⟩) | 4 => .agg #[.string f.nm, .slice af f.args.length cf, .string f.ty, .bool f.ls, .bool f.bg] | 5 => .pointer (some ⟨w.heap.size + 1 + 1, 3, none⟩) | 6 => .slice a1 h.args.length c1 | 7 => .int .i64 z | _ => undef)) (fun _ _ => True) (PEq.up _) trivial ?step ?last
          case step =>
            intro ub w2 i hi hbw _ hdep
            have zw2 := hbw.size
            have yB := fun o => row_cell ((hbw.block B (by have := HBX.out; omega)).trans ((B3.out.block B HBX.out).trans XB.out)) o
            have y2 := fun o => row_cell ((hbw.block (w.heap.size + 1 + 1) (by omega)).trans ((B3.out.block (w.heap.size + 1 + 1) (by omega)).trans ((WX.out.block (w.heap.size + 1 + 1) (by omega)).trans A2.out))) o
            have v0 := (hbw.cell (p := ⟨bt, ot + n * 5, none⟩) (show bt < w3.heap.size by omega)).trans g0
            have v1 := (hbw.cell (p := ⟨bt, ot + n * 5 + 1, none⟩) (show bt < w3.heap.size by omega)).trans g1
            have v2 := (hbw.cell (p := ⟨bt, ot + n * 5 + 2, none⟩) (show bt < w3.heap.size by omega)).trans g2
            have v3 := (hbw.cell (p := ⟨bt, ot + n * 5 + 3, none⟩) (show bt < w3.heap.size by omega)).trans g3
            have v4 := (hbw.cell (p := ⟨bt, ot + n * 5 + 4, none⟩) (show bt < w3.heap.size by omega)).trans g4
            have HBw : Hid (Below w.heap.size w w2) := Q3.out.trans (hbw.mono (by omega))
            clear hbw
            have hcase : i = 0 ∨ i = 1 ∨ i = 2 ∨ i = 3 ∨ i = 4 ∨ i = 5 ∨ i = 6 ∨ i = 7 := by omega
            rcases hcase with rfl | rfl | rfl | rfl | rfl | rfl | rfl | rfl
            · refine wpOp_step rfl (fun K hK => ?_)
              clear hdep
              go_simp
              exact hK _ _ ⟨_, rfl, Below.refl _ _, rfl, trivial⟩
            · have d0 : ub 97 = .pointer (some ⟨B, 1, none⟩) := hdep _ rfl ⟨0, .data⟩ (by simp) rfl
              refine wpOp_step rfl (fun K hK => ?_)
              clear hdep
              go_simp
              exact hK _ _ ⟨_, by simp [G.upd, d0], Below.refl _ _, rfl, trivial⟩
            · refine wpOp_step rfl (fun K hK => ?_)
              clear hdep
              go_simp
              exact hK _ _ ⟨_, rfl, Below.refl _ _, rfl, trivial⟩
            · have d1 : ub 98 = .slice at_ t.fs.length ct := hdep _ rfl ⟨1, .data⟩ (by simp) rfl
              have d2 : ub 99 = .int .i64 n := hdep _ rfl ⟨2, .data⟩ (by simp) rfl
              rw [HAt.out] at d1
              refine wpOp_step rfl (fun K hK => ?_)
              clear hdep
              go_simp
              exact hK _ _ ⟨.pointer (some ⟨bt, ot + n * 5, none⟩), by simp [G.upd, d1, d2], Below.refl _ _, rfl, trivial⟩
            · have d3 : ub 100 = .pointer (some ⟨bt, ot + n * 5, none⟩) := hdep _ rfl ⟨3, .data⟩ (by simp) rfl
              refine wpOp_step rfl (fun K hK => ?_)
              clear hdep
              go_simp
              exact hK _ _ ⟨_, by simp [G.upd, d3], Below.refl _ _, rfl, trivial⟩
            · refine wpOp_step rfl (fun K hK => ?_)
              clear hdep
              go_simp
              exact hK _ _ ⟨_, rfl, Below.refl _ _, rfl, trivial⟩
            · have d5 : ub 102 = .pointer (some ⟨w.heap.size + 1 + 1, 3, none⟩) := hdep _ rfl ⟨5, .data⟩ (by simp) rfl
              refine wpOp_step rfl (fun K hK => ?_)
              clear hdep
              go_simp
              exact hK _ _ ⟨_, by simp [G.upd, d5], Below.refl _ _, rfl, trivial⟩
            · have d4 : ub 101 = .agg #[.string f.nm, .slice af f.args.length cf, .string f.ty, .bool f.ls, .bool f.bg] := hdep _ rfl ⟨4, .data⟩ (by simp) rfl
              have d6 : ub 103 = .slice a1 h.args.length c1 := hdep _ rfl ⟨6, .data⟩ (by simp) rfl
              refine wpOp_step rfl (fun K hK => ?_)
              clear hdep
              go_simp
              refine (spec_argsC f af cf a1 c1 h.args _ (G.AgRow.wide (G.AgRow.keep RFw.out (G.agree HBw.out (Nat.le_refl _))) (Nat.le_refl _) (by omega)) (K1.out _ HBw.out) HFB.out.2.1.1 b3 HFK.out.2.2 (hd_vals HH.out)).mono ?_
              rintro e w8 ⟨rfl, hb8⟩
              rw [← HZ.out]
              exact hK _ _ ⟨.int .i64 z, by simp [G.upd, d4, d6], hb8, rfl, trivial⟩
          case last =>
            intro ub w2 hbw _ hp
            have d7 : ub 104 = .int .i64 z := hp 7 (by omega)
            have zl := hbw.size
            have QL : Hid (Below w.heap.size w w2) := Q3.out.trans (hbw.mono (by omega))
            have yB := fun o => row_cell ((hbw.block B (by have := HBX.out; omega)).trans ((B3.out.block B HBX.out).trans XB.out)) o
            have y0 := fun o => row_cell ((hbw.block w.heap.size (by omega)).trans ((B3.out.block w.heap.size (by omega)).trans ((WX.out.block w.heap.size (by omega)).trans A0.out))) o
            have y1 := fun o => row_cell ((hbw.block (w.heap.size + 1) (by omega)).trans ((B3.out.block (w.heap.size + 1) (by omega)).trans ((WX.out.block (w.heap.size + 1) (by omega)).trans A1.out))) o
            have y2 := fun o => row_cell ((hbw.block (w.heap.size + 1 + 1) (by omega)).trans ((B3.out.block (w.heap.size + 1 + 1) (by omega)).trans ((WX.out.block (w.heap.size + 1 + 1) (by omega)).trans A2.out))) o
            have v2 := (hbw.cell (p := ⟨bt, ot + n * 5 + 2, none⟩) (show bt < w3.heap.size by omega)).trans g2
            clear hp hbw g0 g1 g2 g3 g4
            refine wpOp_step rfl (fun K hK => ?_)
            go_simp
            refine hK _ _ ?_
            clear hK K
            by_cases hz0 : z = 0
            case neg =>
              have HN : Hid (z = oneC S D t h sub) := one_no (by rw [HSC.out, if_neg hz0]) hz0
              have hz' : (z == 0) = false := by rw [beq_eq_false_iff_ne]; exact hz0
              clear HZ HSC
              go_wp2_with fail
              go_ret
              exact ⟨ret_i HN.out, QL.out⟩
            have HSD : Hid (selC D t h sub.isNil = if (G.isIn f.ty != sub.isNil) = true then 11 else 0) := by rw [Hid, HSC.out, if_pos hz0]
            subst hz0
            clear HZ HSC
            have HNL : Hid (sub.isNil = decide (sub.len = 0)) := Sels.isNil_len sub
            rw [HAt.out] at yB
            cases hin : (f.ty.toList == [73, 110, 116]) <;> cases hsl : ((sub.len : Int) == 0)
            · have hne : ¬ sub.len = 0 := fun e => by rw [e] at hsl; simp at hsl
              have HIN : Hid (G.isIn f.ty = false) := hin
              have HGO : Hid (oneC S D t h sub = setC S D ((tdIn S f.ty).getD td0) sub) := by rw [Hid, one_yes (by rw [HSD.out, HIN.out, HNL.out, decide_eq_false hne]; rfl), inT_fld HK1.out HFO.out]
              obtain ⟨t', ht', hnm⟩ : ∃ t', tdIn S f.ty = some t' ∧ t'.nm = f.ty := by
                rcases HFK.out.1 with h9 | h9
                · rw [HIN.out] at h9; cases h9
                · exact td_seen h9
              have HG2 : Hid (setC S D t' sub = oneC S D t h sub) := by rw [Hid, HGO.out, ht']; rfl
              have HT2 : Hid (f.ty = t'.nm ∧ tdIn S t'.nm = some t') := ⟨hnm.symm, by rw [hnm]; exact ht'⟩
              clear HGO ht' hnm
              go_wp2_with fail
              go_quiet (fail)
              go_wp2_with fail
              generalize hwq : w2.drewN nq = wq
              have eqc : ∀ p, wq.cell? p = w2.cell? p := fun p => by rw [← hwq]; rfl
              have yB := fun o => (eqc ⟨B, o, none⟩).trans (yB o)
              have y0 := fun o => (eqc ⟨w.heap.size, o, none⟩).trans (y0 o)
              have y1 := fun o => (eqc ⟨w.heap.size + 1, o, none⟩).trans (y1 o)
              have y2 := fun o => (eqc ⟨w.heap.size + 1 + 1, o, none⟩).trans (y2 o)
              have v2 := (eqc ⟨bt, ot + n * 5 + 2, none⟩).trans v2
              clear eqc
              have zq : wq.heap.size = w2.heap.size := by rw [← hwq]; rfl
              have QQ : Hid (Below w.heap.size w wq) := by rw [← hwq]; exact QL.out.trans (by exact ⟨rfl, rfl, rfl, Nat.le_refl _, fun _ _ => rfl⟩)
              clear hwq
              refine G.region_rel (n := 11) (by kernel_rfl) (by kernel_rfl) (by kernel_rfl) (fun uc => ⟨#[.agg #[.slice aS S.length cS], .agg #[.slice aD D.length cD], .string t.nm, .agg #[.int .i64 h.k, .string h.al, .string h.nm, .slice a1 h.args.length c1, .slice a2 h.dirs.length c2, .slice a3 sub.len c3], .pointer (some ⟨w.heap.size, 0, none⟩), .pointer (some ⟨w.heap.size + 1, 0, none⟩), undef, .pointer (some ⟨w.heap.size + 1 + 1, 0, none⟩), u8, .int .i64 k, u10, undef, undef, .pointer (some ⟨B, 0, none⟩), .int .i64 n, .int .i64 0, .int .i64 k, .pointer (some ⟨w.heap.size + 1 + 1, 4, none⟩), .slice a2 h.dirs.length c2, .int .i64 h.dirs.length, .bool false, u21, u22, u23, u24, u25, u26, u27, u28, u29, u30, u31, u32, u33, u34, u35, u36, .pointer (some ⟨w.heap.size + 1 + 1, 0, none⟩), .int .i64 1, .bool false, .bool false, undef, undef, undef, undef, undef, undef, undef, undef, undef, undef, undef, undef, undef, undef, undef, .bool false, .bool false, undef, undef, undef, undef, undef, undef, undef, undef, undef, undef, undef, undef, undef, undef, undef, .pointer (some ⟨w.heap.size + 1 + 1, 2, none⟩), .string h.nm, .bool false, undef, undef, undef, undef, undef, undef, undef, undef, u 84, u 85, u 86, u 87, u 88, u 89, .agg #[.string t.nm, .slice at_ t.fs.length ct], .agg #[.string t.nm, .slice at_ t.fs.length ct], .pointer (some ⟨w.heap.size + 1 + 1, 2, none⟩), .string h.nm, .int .i64 n, .int .i64 n, .bool false, ub 97, ub 98, ub 99, ub 100, ub 101, ub 102, ub 103, .int .i64 0, .int .i64 0, .bool false, undef, .pointer (some ⟨B, 1, none⟩), .slice (some ⟨bt, ot, none⟩) t.fs.length ct, .int .i64 n, .pointer (some ⟨bt, ot + n * 5, none⟩), .pointer (some ⟨bt, ot + n * 5 + 2, none⟩), .string f.ty, .bool false, .pointer (some ⟨w.heap.size + 1 + 1, 5, none⟩), .slice a3 sub.len c3, .int .i64 sub.len, .bool false, .bool false, uc 120, uc 121, uc 122, uc 123, uc 124, uc 125, uc 126, uc 127, uc 128, uc 129, uc 130], []⟩) (fun _ => undef) (fun i => 120 + i) (fun i j _ _ h => by omega) (PEq (fun i => match i with | 0 => .agg #[.slice aS S.length cS] | 1 => .agg #[.slice aD D.length cD] | 2 => .pointer (some ⟨B, 1, none⟩) | 3 => .slice (some ⟨bt, ot, none⟩) t.fs.length ct | 4 => .int .i64 n | 5 => .pointer (some ⟨bt, ot + n * 5, none⟩) | 6 => .pointer (some ⟨bt, ot + n * 5 + 2, none⟩) | 7 => .string f.ty | 8 => .pointer (some ⟨w.heap.size + 1 + 1, 5, none⟩) | 9 => .slice a3 sub.len c3 | 10 => .int .i64 (oneC S D t h sub) | _ => undef)) (fun _ _ => True) (PEq.up _) trivial ?step ?last
              case step =>
                intro uc w2 i hi hbw _ hdep
                have zw2 := hbw.size
                have uB := fun o => (hbw.cell (p := ⟨B, o, none⟩) (show B < wq.heap.size by have := HBX.out; omega)).trans (yB o)
                have u0 := fun o => (hbw.cell (p := ⟨w.heap.size, o, none⟩) (show w.heap.size < wq.heap.size by omega)).trans (y0 o)
                have u1 := fun o => (hbw.cell (p := ⟨w.heap.size + 1, o, none⟩) (show w.heap.size + 1 < wq.heap.size by omega)).trans (y1 o)
                have u2 := fun o => (hbw.cell (p := ⟨w.heap.size + 1 + 1, o, none⟩) (show w.heap.size + 1 + 1 < wq.heap.size by omega)).trans (y2 o)
                have uf := (hbw.cell (p := ⟨bt, ot + n * 5 + 2, none⟩) (show bt < wq.heap.size by omega)).trans v2
                have HBz : Hid (Below w.heap.size w w2) := QQ.out.trans (hbw.mono (by omega))
                clear yB y0 y1 y2 v2
                clear hbw
                have hcase : i = 0 ∨ i = 1 ∨ i = 2 ∨ i = 3 ∨ i = 4 ∨ i = 5 ∨ i = 6 ∨ i = 7 ∨ i = 8 ∨ i = 9 ∨ i = 10 := by omega
                rcases hcase with rfl | rfl | rfl | rfl | rfl | rfl | rfl | rfl | rfl | rfl | rfl
                · refine wpOp_step rfl (fun K hK => ?_)
                  clear hdep
                  go_simp
                  exact hK _ _ ⟨_, rfl, Below.refl _ _, rfl, trivial⟩
                · refine wpOp_step rfl (fun K hK => ?_)
                  clear hdep
                  go_simp
                  exact hK _ _ ⟨_, rfl, Below.refl _ _, rfl, trivial⟩
                · refine wpOp_step rfl (fun K hK => ?_)
                  clear hdep
                  go_simp
                  exact hK _ _ ⟨_, rfl, Below.refl _ _, rfl, trivial⟩
                · have d2 : uc 122 = .pointer (some ⟨B, 1, none⟩) := hdep _ rfl ⟨2, .data⟩ (by simp) rfl
                  refine wpOp_step rfl (fun K hK => ?_)
                  clear hdep
                  go_simp
                  exact hK _ _ ⟨_, by simp [G.upd, d2], Below.refl _ _, rfl, trivial⟩
                · refine wpOp_step rfl (fun K hK => ?_)
                  clear hdep
                  go_simp
                  exact hK _ _ ⟨_, rfl, Below.refl _ _, rfl, trivial⟩
                · have d3 : uc 123 = .slice (some ⟨bt, ot, none⟩) t.fs.length ct := hdep _ rfl ⟨3, .data⟩ (by simp) rfl
                  have d4 : uc 124 = .int .i64 n := hdep _ rfl ⟨4, .data⟩ (by simp) rfl
                  refine wpOp_step rfl (fun K hK => ?_)
                  clear hdep
                  go_simp
                  exact hK _ _ ⟨_, by simp [G.upd, d3, d4], Below.refl _ _, rfl, trivial⟩
                · have d5 : uc 125 = .pointer (some ⟨bt, ot + n * 5, none⟩) := hdep _ rfl ⟨5, .data⟩ (by simp) rfl
                  refine wpOp_step rfl (fun K hK => ?_)
                  clear hdep
                  go_simp
                  exact hK _ _ ⟨_, by simp [G.upd, d5], Below.refl _ _, rfl, trivial⟩
                · have d6 : uc 126 = .pointer (some ⟨bt, ot + n * 5 + 2, none⟩) := hdep _ rfl ⟨6, .data⟩ (by simp) rfl
                  refine wpOp_step rfl (fun K hK => ?_)
                  clear hdep
                  go_simp
                  exact hK _ _ ⟨_, by simp [G.upd, d6], Below.refl _ _, rfl, trivial⟩
                · refine wpOp_step rfl (fun K hK => ?_)
                  clear hdep
                  go_simp
                  exact hK _ _ ⟨_, rfl, Below.refl _ _, rfl, trivial⟩
                · have d8 : uc 128 = .pointer (some ⟨w.heap.size + 1 + 1, 5, none⟩) := hdep _ rfl ⟨8, .data⟩ (by simp) rfl
                  refine wpOp_step rfl (fun K hK => ?_)
                  clear hdep
                  go_simp
                  exact hK _ _ ⟨_, by simp [G.upd, d8], Below.refl _ _, rfl, trivial⟩
                · have d0 : uc 120 = .agg #[.slice aS S.length cS] := hdep _ rfl ⟨0, .data⟩ (by simp) rfl
                  have d1 : uc 121 = .agg #[.slice aD D.length cD] := hdep _ rfl ⟨1, .data⟩ (by simp) rfl
                  have d7 : uc 127 = .string f.ty := hdep _ rfl ⟨7, .data⟩ (by simp) rfl
                  have d9 : uc 129 = .slice a3 sub.len c3 := hdep _ rfl ⟨9, .data⟩ (by simp) rfl
                  refine wpOp_step rfl (fun K hK => ?_)
                  clear hdep
                  go_simp
                  refine (HIS.out d f.ty t' a3 c3 aS cS aD cD _ (.inr HT2.out) (K0.out _ HBz.out) (K3.out _ HBz.out) hl HSBD.out HOKS.out).mono ?_
                  rintro e w8 ⟨rfl, hb8⟩
                  rw [HG2.out]
                  exact hK _ _ ⟨.int .i64 (oneC S D t h sub), by simp [G.upd, d0, d1, d7, d9], hb8, rfl, trivial⟩
              case last =>
                intro uc w2 hbw _ hp
                have d10 : uc 130 = .int .i64 (oneC S D t h sub) := hp 10 (by omega)
                have QZ : Hid (Below w.heap.size w w2) := QQ.out.trans (hbw.mono (by omega))
                clear hp hbw yB y0 y1 y2 v2
                refine wpOp_step rfl (fun K hK => ?_)
                go_simp
                refine hK _ _ ?_
                clear hK K
                go_wp2_with fail
                go_ret
                exact ⟨rfl, QZ.out⟩
            · have hse : sub.len = 0 := by have := beq_iff_eq.1 hsl; omega
              have HN : Hid (11 = oneC S D t h sub) := one_no (by rw [HSD.out, show G.isIn f.ty = false from hin, HNL.out, decide_eq_true hse]; rfl) (by decide)
              go_wp2_with fail
              go_quiet (fail)
              go_wp2_with fail
              go_ret
              exact ⟨ret_i HN.out, QL.out.trans (by exact ⟨rfl, rfl, rfl, Nat.le_refl _, fun _ _ => rfl⟩)⟩
            · have hne : ¬ sub.len = 0 := fun e => by rw [e] at hsl; simp at hsl
              have HN : Hid (11 = oneC S D t h sub) := one_no (by rw [HSD.out, show G.isIn f.ty = true from hin, HNL.out, decide_eq_false hne]; rfl) (by decide)
              go_wp2_with fail
              go_quiet (fail)
              go_wp2_with fail
              go_ret
              exact ⟨ret_i HN.out, QL.out.trans (by exact ⟨rfl, rfl, rfl, Nat.le_refl _, fun _ _ => rfl⟩)⟩
            · have hse : sub.len = 0 := by have := beq_iff_eq.1 hsl; omega
              have hnil : sub.isNil = true := by rw [HNL.out, decide_eq_true hse]
              have HG2 : Hid (setC S D td0 sub = oneC S D t h sub) := by rw [Hid, one_yes (by rw [HSD.out, show G.isIn f.ty = true from hin, hnil]; rfl), setC_nil _ _ _ hnil, setC_nil _ _ _ hnil]
              have HNIL : Hid (sub.isNil = true) := hnil
              clear hse hnil
              go_wp2_with fail
              go_quiet (fail)
              go_wp2_with fail
              clear hsl hin
              generalize hwq : w2.drewN nq = wq
              have eqc : ∀ p, wq.cell? p = w2.cell? p := fun p => by rw [← hwq]; rfl
              have yB := fun o => (eqc ⟨B, o, none⟩).trans (yB o)
              have y0 := fun o => (eqc ⟨w.heap.size, o, none⟩).trans (y0 o)
              have y1 := fun o => (eqc ⟨w.heap.size + 1, o, none⟩).trans (y1 o)
              have y2 := fun o => (eqc ⟨w.heap.size + 1 + 1, o, none⟩).trans (y2 o)
              have v2 := (eqc ⟨bt, ot + n * 5 + 2, none⟩).trans v2
              clear eqc
              have zq : wq.heap.size = w2.heap.size := by rw [← hwq]; rfl
              have QQ : Hid (Below w.heap.size w wq) := by rw [← hwq]; exact QL.out.trans (by exact ⟨rfl, rfl, rfl, Nat.le_refl _, fun _ _ => rfl⟩)
              clear hwq
              refine G.region_rel (n := 11) (by kernel_rfl) (by kernel_rfl) (by kernel_rfl) (fun uc => ⟨#[.agg #[.slice aS S.length cS], .agg #[.slice aD D.length cD], .string t.nm, .agg #[.int .i64 h.k, .string h.al, .string h.nm, .slice a1 h.args.length c1, .slice a2 h.dirs.length c2, .slice a3 sub.len c3], .pointer (some ⟨w.heap.size, 0, none⟩), .pointer (some ⟨w.heap.size + 1, 0, none⟩), undef, .pointer (some ⟨w.heap.size + 1 + 1, 0, none⟩), u8, .int .i64 k, u10, undef, undef, .pointer (some ⟨B, 0, none⟩), .int .i64 n, .int .i64 0, .int .i64 k, .pointer (some ⟨w.heap.size + 1 + 1, 4, none⟩), .slice a2 h.dirs.length c2, .int .i64 h.dirs.length, .bool false, u21, u22, u23, u24, u25, u26, u27, u28, u29, u30, u31, u32, u33, u34, u35, u36, .pointer (some ⟨w.heap.size + 1 + 1, 0, none⟩), .int .i64 1, .bool false, .bool false, undef, undef, undef, undef, undef, undef, undef, undef, undef, undef, undef, undef, undef, undef, undef, .bool false, .bool false, undef, undef, undef, undef, undef, undef, undef, undef, undef, undef, undef, undef, undef, undef, undef, .pointer (some ⟨w.heap.size + 1 + 1, 2, none⟩), .string h.nm, .bool false, undef, undef, undef, undef, undef, undef, undef, undef, u 84, u 85, u 86, u 87, u 88, u 89, .agg #[.string t.nm, .slice at_ t.fs.length ct], .agg #[.string t.nm, .slice at_ t.fs.length ct], .pointer (some ⟨w.heap.size + 1 + 1, 2, none⟩), .string h.nm, .int .i64 n, .int .i64 n, .bool false, ub 97, ub 98, ub 99, ub 100, ub 101, ub 102, ub 103, .int .i64 0, .int .i64 0, .bool false, undef, .pointer (some ⟨B, 1, none⟩), .slice (some ⟨bt, ot, none⟩) t.fs.length ct, .int .i64 n, .pointer (some ⟨bt, ot + n * 5, none⟩), .pointer (some ⟨bt, ot + n * 5 + 2, none⟩), .string f.ty, .bool true, .pointer (some ⟨w.heap.size + 1 + 1, 5, none⟩), .slice a3 sub.len c3, .int .i64 sub.len, .bool true, .bool false, uc 120, uc 121, uc 122, uc 123, uc 124, uc 125, uc 126, uc 127, uc 128, uc 129, uc 130], []⟩) (fun _ => undef) (fun i => 120 + i) (fun i j _ _ h => by omega) (PEq (fun i => match i with | 0 => .agg #[.slice aS S.length cS] | 1 => .agg #[.slice aD D.length cD] | 2 => .pointer (some ⟨B, 1, none⟩) | 3 => .slice (some ⟨bt, ot, none⟩) t.fs.length ct | 4 => .int .i64 n | 5 => .pointer (some ⟨bt, ot + n * 5, none⟩) | 6 => .pointer (some ⟨bt, ot + n * 5 + 2, none⟩) | 7 => .string f.ty | 8 => .pointer (some ⟨w.heap.size + 1 + 1, 5, none⟩) | 9 => .slice a3 sub.len c3 | 10 => .int .i64 (oneC S D t h sub) | _ => undef)) (fun _ _ => True) (PEq.up _) trivial ?step ?last
              case step =>
                intro uc w2 i hi hbw _ hdep
                have zw2 := hbw.size
                have uB := fun o => (hbw.cell (p := ⟨B, o, none⟩) (show B < wq.heap.size by have := HBX.out; omega)).trans (yB o)
                have u0 := fun o => (hbw.cell (p := ⟨w.heap.size, o, none⟩) (show w.heap.size < wq.heap.size by omega)).trans (y0 o)
                have u1 := fun o => (hbw.cell (p := ⟨w.heap.size + 1, o, none⟩) (show w.heap.size + 1 < wq.heap.size by omega)).trans (y1 o)
                have u2 := fun o => (hbw.cell (p := ⟨w.heap.size + 1 + 1, o, none⟩) (show w.heap.size + 1 + 1 < wq.heap.size by omega)).trans (y2 o)
                have uf := (hbw.cell (p := ⟨bt, ot + n * 5 + 2, none⟩) (show bt < wq.heap.size by omega)).trans v2
                have HBz : Hid (Below w.heap.size w w2) := QQ.out.trans (hbw.mono (by omega))
                clear yB y0 y1 y2 v2
                clear hbw
                have hcase : i = 0 ∨ i = 1 ∨ i = 2 ∨ i = 3 ∨ i = 4 ∨ i = 5 ∨ i = 6 ∨ i = 7 ∨ i = 8 ∨ i = 9 ∨ i = 10 := by omega
                rcases hcase with rfl | rfl | rfl | rfl | rfl | rfl | rfl | rfl | rfl | rfl | rfl
                · refine wpOp_step rfl (fun K hK => ?_)
                  clear hdep
                  go_simp
                  exact hK _ _ ⟨_, rfl, Below.refl _ _, rfl, trivial⟩
                · refine wpOp_step rfl (fun K hK => ?_)
                  clear hdep
                  go_simp
                  exact hK _ _ ⟨_, rfl, Below.refl _ _, rfl, trivial⟩
                · refine wpOp_step rfl (fun K hK => ?_)
                  clear hdep
                  go_simp
                  exact hK _ _ ⟨_, rfl, Below.refl _ _, rfl, trivial⟩
                · have d2 : uc 122 = .pointer (some ⟨B, 1, none⟩) := hdep _ rfl ⟨2, .data⟩ (by simp) rfl
                  refine wpOp_step rfl (fun K hK => ?_)
                  clear hdep
                  go_simp
                  exact hK _ _ ⟨_, by simp [G.upd, d2], Below.refl _ _, rfl, trivial⟩
                · refine wpOp_step rfl (fun K hK => ?_)
                  clear hdep
                  go_simp
                  exact hK _ _ ⟨_, rfl, Below.refl _ _, rfl, trivial⟩
                · have d3 : uc 123 = .slice (some ⟨bt, ot, none⟩) t.fs.length ct := hdep _ rfl ⟨3, .data⟩ (by simp) rfl
                  have d4 : uc 124 = .int .i64 n := hdep _ rfl ⟨4, .data⟩ (by simp) rfl
                  refine wpOp_step rfl (fun K hK => ?_)
                  clear hdep
                  go_simp
                  exact hK _ _ ⟨_, by simp [G.upd, d3, d4], Below.refl _ _, rfl, trivial⟩
                · have d5 : uc 125 = .pointer (some ⟨bt, ot + n * 5, none⟩) := hdep _ rfl ⟨5, .data⟩ (by simp) rfl
                  refine wpOp_step rfl (fun K hK => ?_)
                  clear hdep
                  go_simp
                  exact hK _ _ ⟨_, by simp [G.upd, d5], Below.refl _ _, rfl, trivial⟩
                · have d6 : uc 126 = .pointer (some ⟨bt, ot + n * 5 + 2, none⟩) := hdep _ rfl ⟨6, .data⟩ (by simp) rfl
                  refine wpOp_step rfl (fun K hK => ?_)
                  clear hdep
                  go_simp
                  exact hK _ _ ⟨_, by simp [G.upd, d6], Below.refl _ _, rfl, trivial⟩
                · refine wpOp_step rfl (fun K hK => ?_)
                  clear hdep
                  go_simp
                  exact hK _ _ ⟨_, rfl, Below.refl _ _, rfl, trivial⟩
                · have d8 : uc 128 = .pointer (some ⟨w.heap.size + 1 + 1, 5, none⟩) := hdep _ rfl ⟨8, .data⟩ (by simp) rfl
                  refine wpOp_step rfl (fun K hK => ?_)
                  clear hdep
                  go_simp
                  exact hK _ _ ⟨_, by simp [G.upd, d8], Below.refl _ _, rfl, trivial⟩
                · have d0 : uc 120 = .agg #[.slice aS S.length cS] := hdep _ rfl ⟨0, .data⟩ (by simp) rfl
                  have d1 : uc 121 = .agg #[.slice aD D.length cD] := hdep _ rfl ⟨1, .data⟩ (by simp) rfl
                  have d7 : uc 127 = .string f.ty := hdep _ rfl ⟨7, .data⟩ (by simp) rfl
                  have d9 : uc 129 = .slice a3 sub.len c3 := hdep _ rfl ⟨9, .data⟩ (by simp) rfl
                  refine wpOp_step rfl (fun K hK => ?_)
                  clear hdep
                  go_simp
                  refine (HIS.out d f.ty td0 a3 c3 aS cS aD cD _ (.inl HNIL.out) (K0.out _ HBz.out) (K3.out _ HBz.out) hl HSBD.out HOKS.out).mono ?_
                  rintro e w8 ⟨rfl, hb8⟩
                  rw [HG2.out]
                  exact hK _ _ ⟨.int .i64 (oneC S D t h sub), by simp [G.upd, d0, d1, d7, d9], hb8, rfl, trivial⟩
              case last =>
                intro uc w2 hbw _ hp
                have d10 : uc 130 = .int .i64 (oneC S D t h sub) := hp 10 (by omega)
                have QZ : Hid (Below w.heap.size w w2) := QQ.out.trans (hbw.mono (by omega))
                clear hp hbw yB y0 y1 y2 v2
                refine wpOp_step rfl (fun K hK => ?_)
                go_simp
                refine hK _ _ ?_
                clear hK K
                go_wp2_with fail
                go_ret
                exact ⟨rfl, QZ.out⟩
    · rw [hk2] at q2
      have hnil := sub_nil HH.out hk2
      have HSC : Hid (selC D t h sub.isNil = if frOK D h.nm t.nm = true then 0 else 12) := sel_spread HD.out hk2
      go_wp2_with fail
      refine (spec_fragment aD cD D h.nm _ (K0.out _ QR.out).rd HDB.out.1).mono ?_
      rintro e w1 ⟨⟨hf, rfl⟩ | ⟨x, a8, c8, hf, rfl, r8⟩, hb1⟩
      · have HN : Hid (12 = oneC S D t h sub) := one_no (by rw [HSC.out]; unfold frOK; rw [hf]; rfl) (by decide)
        have Q1 : Hid (∀ ob, Below w.heap.size w (w1.alloc ob)) := fun ob => (QR.out.trans (hb1.mono (by omega))).alloc (by have := hb1.size; omega) _
        clear hb1 hf q0 q1 q2
        go_wp2_with fail
        go_ret
        exact ⟨ret_i HN.out, Q1.out _⟩
      · have Q1 : Hid (∀ ob, Below w.heap.size w (w1.alloc ob)) := fun ob => (QR.out.trans (hb1.mono (by omega))).alloc (by have := hb1.size; omega) _
        have HFR : Hid (frOK D h.nm t.nm = (x.on.toList == t.nm.toList)) := by unfold Hid frOK; rw [hf]
        clear hb1 hf q0 q1 q2 r8
        unfold deV
        cases he : (x.on.toList == t.nm.toList)
        · have ne : (x.on.toList != t.nm.toList) = true := by simp only [bne, he]; rfl
          have HN : Hid (12 = oneC S D t h sub) := one_no (by rw [HSC.out, HFR.out, he]; rfl) (by decide)
          go_wp2_with fail
          go_ret
          exact ⟨ret_i HN.out, Q1.out _⟩
        · have ne : (x.on.toList != t.nm.toList) = false := by simp only [bne, he]; rfl
          have HN : Hid (0 = oneC S D t h sub) := by rw [Hid, one_yes (by rw [HSC.out, HFR.out, he]; rfl), setC_nil _ _ _ hnil]
          go_wp2_with fail
          go_ret
          exact ⟨ret_i HN.out, Q1.out _⟩
    · rw [hk3] at q2
      have HSC : Hid (selC D t h sub.isNil = if inlOK h.nm t.nm = true then 0 else 12) := sel_inline HD.out hk3
      have HREC : Hid (inlOK h.nm t.nm = true → oneC S D t h sub = setC S D t sub) := fun hi => by rw [one_yes (by rw [HSC.out, hi]; rfl), inT_else hk3]
      cases h0 : (h.nm.toList == [])
      · cases h5 : (h.nm.toList == t.nm.toList)
        · have HN : Hid (12 = oneC S D t h sub) := one_no (by rw [HSC.out]; unfold inlOK; rw [h0, h5]; rfl) (by decide)
          have n0 : (h.nm.toList != []) = true := by simp only [bne, h0]; rfl
          have n5 : (h.nm.toList != t.nm.toList) = true := by simp only [bne, h5]; rfl
          go_wp2_with fail
          go_ret
          exact ⟨ret_i HN.out, QR.out⟩
        · have HN : Hid (setC S D t sub = oneC S D t h sub) := (HREC.out (by unfold inlOK; rw [h0, h5]; rfl)).symm
          have n0 : (h.nm.toList != []) = true := by simp only [bne, h0]; rfl
          have n5 : (h.nm.toList != t.nm.toList) = false := by simp only [bne, h5]; rfl
          go_wp2_with fail
          refine (HIS.out d t.nm t a3 c3 aS cS aD cD _ (.inr ⟨rfl, HT.out⟩) (K0.out _ QR.out) (K3.out _ QR.out) hl HSBD.out HOKS.out).mono ?_
          rintro e w1 ⟨rfl, hb1⟩
          have Q1 : Hid (Below w.heap.size w w1) := QR.out.trans (hb1.mono (by omega))
          rw [HN.out]
          clear hb1 q0 q1 q2
          go_wp2_with fail
          go_ret
          exact ⟨rfl, Q1.out⟩
      · have HN : Hid (setC S D t sub = oneC S D t h sub) := (HREC.out (by unfold inlOK; rw [h0]; rfl)).symm
        have n0 : (h.nm.toList != []) = false := by simp only [bne, h0]; rfl
        go_wp2_with fail
        refine (HIS.out d t.nm t a3 c3 aS cS aD cD _ (.inr ⟨rfl, HT.out⟩) (K0.out _ QR.out) (K3.out _ QR.out) hl HSBD.out HOKS.out).mono ?_
        rintro e w1 ⟨rfl, hb1⟩
        have Q1 : Hid (Below w.heap.size w w1) := QR.out.trans (hb1.mono (by omega))
        rw [HN.out]
        clear hb1 q0 q1 q2
        go_wp2_with fail
        go_ret
        exact ⟨rfl, Q1.out⟩
end Go.Proofs.YtkjndghkimnjeaaGreat
