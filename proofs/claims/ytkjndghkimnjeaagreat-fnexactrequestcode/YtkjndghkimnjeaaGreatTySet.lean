/- CheckTypes: the program's going through selections. -/
import Derived.Test.YtkjndghkimnjeaaGreatTyCodes
import Derived.Deep.RegionWith
import Derived.Deep.CutRange
namespace Go.Proofs.YtkjndghkimnjeaaGreat
open Go.ChangeShapes Go.WideShapes Go.ChangeAt Go.RowKit
set_option linter.unusedVariables false

def SetF (S : List G.Td) (D : List De) (s : Sels) : Prop := ∀ (d : Nat) (t : G.Td) (at_ : Option Addr) (ct : Nat) (a' : Option Addr) (c' : Nat) (Bt Bf R : Nat) (w0 w : World), Tc w0 w S D Bt Bf R → SelRow 0 w.heap.size w a' s → G.FdRow 0 w.heap.size w at_ t.fs → G.TdBd 1048576 t → s.len ≤ 1048576 → SelsBd 1048576 s → okS d s = true →
    Calls Tryz.prog 96 #[tcV Bt Bf (some ⟨R, 0, none⟩) 7 7, .slice a' s.len c', tdV t at_ ct] w fun e w' => e = .returned (.int .i64 (setC S D t s)) ∧ Below w.heap.size w w'
/-- What the rules of one selection go by. -/
structure Env (w0 V : World) (S : List G.Td) (D : List De) (Bt Bf R : Nat) (h : Hd) (a1 a2 a3 at_ af : Option Addr) (sub : Sels) (t : G.Td) (f : G.Fd) : Prop where
  tc : Tc w0 V S D Bt Bf R
  r1 : ArRow 0 V.heap.size V a1 h.args
  r2 : DiRow 0 V.heap.size V a2 h.dirs
  r3 : SelRow 0 V.heap.size V a3 sub
  rt : G.FdRow 0 V.heap.size V at_ t.fs
  rf : G.AgRow 0 V.heap.size V af f.args
theorem Env.up {w0 V V' : World} {S : List G.Td} {D : List De} {Bt Bf R : Nat} {h : Hd} {a1 a2 a3 at_ af : Option Addr} {sub : Sels} {t : G.Td} {f : G.Fd} (H : Env w0 V S D Bt Bf R h a1 a2 a3 at_ af sub t f) (hb : Below V.heap.size V V') : Env w0 V' S D Bt Bf R h a1 a2 a3 at_ af sub t f :=
  ⟨H.tc.keep hb, Row.up H.r1 hb, Row.up H.r2 hb, SelRow.up H.r3 hb, G.FdRow.up H.rt hb, G.AgRow.up H.rf hb⟩
theorem fnz_next {x : Int} {l : List Int} (h : x = 0) : fnz (x :: l) = fnz l := by simp only [fnz]; rw [if_pos h]
theorem fnz_here {x : Int} {l : List Int} (h : ¬ x = 0) : fnz (x :: l) = x := by simp only [fnz]; rw [if_neg h]

/-- What the operations leave that go on with what is within. -/
def PS (M Bt Bf R : Nat) (a3 : Option Addr) (n c3 : Nat) (sp : Value) (t' : G.Td) (y : Int) (i : Nat) (v : Value) (wx : World) : Prop :=
  match i with
  | 0 => v = .agg #[.map (some Bt), .map (some Bf), .slice (some ⟨R, 0, none⟩) 7 7]
  | 1 => v = .pointer (some ⟨M, 5, none⟩)
  | 2 => v = .slice a3 n c3
  | 3 => v = .agg #[.map (some Bt), .map (some Bf), .slice (some ⟨R, 0, none⟩) 7 7]
  | 4 => v = sp
  | 5 => ∃ a8 c8, v = .agg #[.string t'.nm, .slice a8 t'.fs.length c8] ∧ G.FdRow 0 wx.heap.size wx a8 t'.fs
  | 6 => v = .int .i64 y
  | _ => True
theorem PS.up (M Bt Bf R : Nat) (a3 : Option Addr) (n c3 : Nat) (sp : Value) (t' : G.Td) (y : Int) : ∀ i v w w', PS M Bt Bf R a3 n c3 sp t' y i v w → Below w.heap.size w w' → PS M Bt Bf R a3 n c3 sp t' y i v w' := by
  intro i v w w' h hb
  unfold PS at h ⊢
  split at h
  · exact h
  · exact h
  · exact h
  · exact h
  · exact h
  · obtain ⟨a8, c8, h1, h2⟩ := h; exact ⟨a8, c8, h1, G.FdRow.up h2 hb⟩
  · exact h
  · trivial

set_option maxHeartbeats 16000000 in
set_option maxRecDepth 60000 in
theorem set_fault (S : List G.Td) (D : List De) (hO : G.OkN (S.map G.Td.nm)) (hSB : G.TdsBd 1048576 S) (s : Sels) : SetF S D s := by
  induction hN : s.size using Nat.strongRecOn generalizing s with
  | _ N ih =>
  subst hN
  intro d t at_ ct a' c' Bt Bf R w0 w hTc hs hrt htb hn hbd hok
  have IH : Hid (∀ sub : Sels, sub.size < s.size → SetF S D sub) := fun sub hsub => ih sub.size hsub sub rfl
  have HS : Hid (SelFrom 0 w.heap.size w a' 0 s) := hs.from_
  have HB : Hid (SelsBd 1048576 s) := hbd
  have HOK : Hid (okS d s = true) := hok
  have HTC : Hid (Tc w0 w S D Bt Bf R) := hTc
  have HRT : Hid (G.FdRow 0 w.heap.size w at_ t.fs) := hrt
  have HTB : Hid (G.TdBd 1048576 t) := htb
  have hfl : t.fs.length ≤ 1048576 := htb.2.1
  have HO : Hid (G.OkN (S.map G.Td.nm)) := hO
  have HSB : Hid (G.TdsBd 1048576 S) := hSB
  clear hs ih hbd hok hTc hrt htb hO hSB
  unfold tcV tdV
  go_enter Tryz.func96, Tryz.ntmps96
  go_wp2_with fail
  obtain ⟨W, hW⟩ : ∃ W, W = (w.alloc (.cells #[.map (some Bt), .map (some Bf), .slice (some ⟨R, 0, none⟩) 7 7] 148)).alloc (.cells #[.string t.nm, .slice at_ t.fs.length ct] 93) := ⟨_, rfl⟩
  rw [← hW]
  have zW : W.heap.size = w.heap.size + 2 := by rw [hW]; simp
  have B0 : Hid (Below w.heap.size w W) := by rw [hW]; exact ((Below.refl _ _).alloc (Nat.le_refl _) _).alloc (by simp) _
  have A0 : Hid (W.heap[w.heap.size]? = some (.cells #[.map (some Bt), .map (some Bf), .slice (some ⟨R, 0, none⟩) 7 7] 148 (0, 0))) := by rw [Hid, hW, Below.heap_alloc _ _ _ (by simp)]; exact heap_alloc_new _ _
  have A1 : Hid (W.heap[w.heap.size + 1]? = some (.cells #[.string t.nm, .slice at_ t.fs.length ct] 93 (0, 0))) := by
    rw [Hid, hW]
    have := heap_alloc_new (w.alloc (.cells #[.map (some Bt), .map (some Bf), .slice (some ⟨R, 0, none⟩) 7 7] 148)) (.cells #[.string t.nm, .slice at_ t.fs.length ct] 93)
    simpa using this
  clear hW
  go_loopw [16] (fun i w' => ∃ (k : Nat) (rest : Sels), Hid (s.len = k + rest.len) ∧ i = .int .i64 k ∧ Hid (Below W.heap.size W w') ∧ Hid (rest.size ≤ s.size) ∧ Hid (SelsBd 1048576 rest) ∧ Hid (okS d rest = true) ∧ Hid (SelFrom 0 w.heap.size w a' k rest) ∧ Hid (setC S D t s = setC S D t rest)) (fun i _ => s.len - (intOf i).toNat)
  case atStart => exact ⟨0, s, by simp [Hid], rfl, Below.refl _ _, Nat.le_refl _, HB, HOK, HS, rfl⟩
  case round =>
    obtain ⟨k, rest, HK, rfl, HW, HZ, HD, HOR, HF, HE⟩ := hrel
    have hzr := HW.out.size
    have QR : Hid (Below w.heap.size w wr) := B0.out.trans (HW.out.mono (by omega))
    cases rest with
    | nil =>
      have hk' : ¬ k < s.len := by rw [HK.out]; simp only [Sels.len]; omega
      have NE : Hid (0 = setC S D t s) := by rw [Hid, HE.out]; rfl
      clear HE
      go_wp2_with fail
      go_ret
      exact ⟨ret_i NE.out, QR.out⟩
    | cons h sub rest =>
      have hlt : k < s.len := by rw [HK.out]; simp only [Sels.len]; omega
      have HK2 : Hid (s.len = k + 1 + rest.len) := by rw [Hid, HK.out]; simp only [Sels.len]; omega
      obtain ⟨b, o, a1, c1, a2, c2, a3, c3, ha, _, hbl, d0, d1, d2, d3, d4, d5, r1, r2, r3, _, hcap⟩ := (HF.out.keep (Below.agree QR.out (Nat.le_refl _))).step_cap
      have HF2 : Hid (SelFrom 0 w.heap.size w a' (k + 1) rest) := SelFrom.next HF.out
      subst ha
      have R1 : Hid (ArRow 0 w.heap.size wr a1 h.args) := r1
      have R2 : Hid (DiRow 0 w.heap.size wr a2 h.dirs) := r2
      have R3 : Hid (SelRow 0 w.heap.size wr a3 sub) := r3
      obtain ⟨e1, e2, e3, e4⟩ := HD.out
      have E1 : Hid (HdBd 1048576 h) := e1
      have E3 : Hid (SelsBd 1048576 sub) := e3
      have E4 : Hid (SelsBd 1048576 rest) := e4
      have hor := HOR.out
      simp only [okS, Bool.and_eq_true, decide_eq_true_eq] at hor
      obtain ⟨⟨⟨o1, o2⟩, o3⟩, o4⟩ := hor
      have O2 : Hid (hdB h sub.isNil = true) := o2
      have O3 : Hid (okS (d - 1) sub = true) := o3
      have O4 : Hid (okS d rest = true) := o4
      have HZ2 : Hid (rest.size ≤ s.size) := by have := HZ.out; simp only [Sels.size] at this; unfold Hid; omega
      have IS : Hid (SetF S D sub) := IH.out sub (by have := HZ.out; simp only [Sels.size] at this; omega)
      have snm : h.nm.size ≤ maxLen := by have := e1.2.1; unfold maxLen; omega
      have HEX : Hid (setC S D t s = if selC D t h sub.isNil = 0 then (if setC S D (inT S t h) sub = 0 then setC S D t rest else setC S D (inT S t h) sub) else selC D t h sub.isNil) := HE.out
      have q1 := fun ob o => (((Below.refl wr.heap.size wr).alloc (Nat.le_refl _) ob).cell (p := ⟨w.heap.size + 1, o, none⟩) (show w.heap.size + 1 < wr.heap.size by omega)).trans (row_cell ((HW.out.block (w.heap.size + 1) (by omega)).trans A1.out) o)
      have HTr : Hid (Tc w0 wr S D Bt Bf R) := HTC.out.keep QR.out
      clear r1 r2 r3 e1 e3 e4 o2 o3 o4 HE HOR HD
      go_wp2_with fail
      obtain ⟨W2, hW2⟩ : ∃ W2, W2 = wr.alloc (.cells #[.int .i64 h.k, .string h.al, .string h.nm, .slice a1 h.args.length c1, .slice a2 h.dirs.length c2, .slice a3 sub.len c3] 115) := ⟨_, rfl⟩
      rw [← hW2]
      have z2 : W2.heap.size = wr.heap.size + 1 := by rw [hW2]; simp
      have B2 : Hid (Below wr.heap.size wr W2) := by rw [hW2]; exact (Below.refl _ _).alloc (Nat.le_refl _) _
      have X2 : Hid (W2.heap[wr.heap.size]? = some (.cells #[.int .i64 h.k, .string h.al, .string h.nm, .slice a1 h.args.length c1, .slice a2 h.dirs.length c2, .slice a3 sub.len c3] 115 (0, 0))) := by rw [Hid, hW2]; exact heap_alloc_new _ _
      have RT2 : Hid (G.FdRow 0 W2.heap.size W2 at_ t.fs) := G.FdRow.up (G.FdRow.up HRT.out QR.out) B2.out
      clear hW2 d0 d1 d2 d3 d4 d5 q1
      refine (spot_any h sub.len a1 a2 a3 at_ c1 c2 c3 ct t _ RT2.out hfl).mono ?_
      rintro e w1 ⟨⟨f, af, cf, kn, rfl, hsp, r5⟩, hb1⟩
      have HSP : Hid (SpF t h f kn) := hsp
      have z1 := hb1.size
      have hFB := hsp.bd HTB.out
      have hfa : f.args.length ≤ 1048576 := hFB.1
      have hft : f.ty.size ≤ maxLen := by have := hFB.2; unfold maxLen; omega
      have B1 : Hid (Below wr.heap.size wr w1) := B2.out.trans (hb1.mono (by omega))
      have EN1 : Hid (Env w0 w1 S D Bt Bf R h a1 a2 a3 at_ af sub t f) :=
        ⟨HTr.out.keep B1.out, Row.up (Row.wide R1.out (Nat.le_refl _) (by omega)) B1.out, Row.up (Row.wide R2.out (Nat.le_refl _) (by omega)) B1.out, SelRow.up (SelRow.wide R3.out (Nat.le_refl _) (by omega)) B1.out, G.FdRow.up RT2.out hb1, G.AgRow.up r5 hb1⟩
      have X1 : Hid (w1.heap[wr.heap.size]? = some (.cells #[.int .i64 h.k, .string h.al, .string h.nm, .slice a1 h.args.length c1, .slice a2 h.dirs.length c2, .slice a3 sub.len c3] 115 (0, 0))) := (hb1.block _ (by omega)).trans X2.out
      have Y1 : Hid (w1.heap[w.heap.size]? = some (.cells #[.map (some Bt), .map (some Bf), .slice (some ⟨R, 0, none⟩) 7 7] 148 (0, 0))) := ((B1.out.block _ (by omega)).trans (HW.out.block _ (by omega))).trans A0.out
      have y1 := fun ob o => (((Below.refl w1.heap.size w1).alloc (Nat.le_refl _) ob).cell (p := ⟨w.heap.size, o, none⟩) (show w.heap.size < w1.heap.size by omega)).trans (row_cell Y1.out o)
      clear hb1 hsp r5 hFB X2
      unfold spV
      go_wp2_with fail
      obtain ⟨V, hV⟩ : ∃ V, V = w1.alloc (.cells #[.int .i64 h.k, .string h.al, .string h.nm, .slice a1 h.args.length c1, .slice a2 h.dirs.length c2, .slice a3 sub.len c3, .string t.nm, .slice at_ t.fs.length ct, .string f.nm, .slice af f.args.length cf, .string f.ty, .bool f.ls, .bool f.bg, .bool kn] 183) := ⟨_, rfl⟩
      rw [← hV]
      have zV : V.heap.size = w1.heap.size + 1 := by rw [hV]; simp
      have BV : Hid (Below w1.heap.size w1 V) := by rw [hV]; exact (Below.refl _ _).alloc (Nat.le_refl _) _
      have PV : Hid (V.heap[w1.heap.size]? = some (.cells #[.int .i64 h.k, .string h.al, .string h.nm, .slice a1 h.args.length c1, .slice a2 h.dirs.length c2, .slice a3 sub.len c3, .string t.nm, .slice at_ t.fs.length ct, .string f.nm, .slice af f.args.length cf, .string f.ty, .bool f.ls, .bool f.bg, .bool kn] 183 (0, 0))) := by rw [Hid, hV]; exact heap_alloc_new _ _
      have XV : Hid (V.heap[wr.heap.size]? = some (.cells #[.int .i64 h.k, .string h.al, .string h.nm, .slice a1 h.args.length c1, .slice a2 h.dirs.length c2, .slice a3 sub.len c3] 115 (0, 0))) := (BV.out.block _ (by omega)).trans X1.out
      have YV : Hid (V.heap[w.heap.size]? = some (.cells #[.map (some Bt), .map (some Bf), .slice (some ⟨R, 0, none⟩) 7 7] 148 (0, 0))) := (BV.out.block _ (by omega)).trans Y1.out
      have EV : Hid (Env w0 V S D Bt Bf R h a1 a2 a3 at_ af sub t f) := EN1.out.up BV.out
      have QV : Hid (Below W.heap.size W V) := (HW.out.trans (B1.out.mono (by omega))).trans (BV.out.mono (by omega))
      have QVw : Hid (Below w.heap.size w V) := B0.out.trans (QV.out.mono (by omega))
      have HC : Hid (fnz (codesOf D t h f kn (decide (sub.len = 0))) = selC D t h sub.isNil) := by rw [Hid, ← Sels.isNil_len]; exact codes_sel O2.out HSP.out
      clear hV y1 EN1 X1 Y1
      obtain ⟨wo, rfl⟩ : ∃ x, x = wr := ⟨_, rfl⟩
      go_loopw [26] (fun i w' => ∃ (j : Nat), j ≤ 7 ∧ i = .int .i64 j ∧ Hid (Below V.heap.size V w') ∧ Hid (selC D t h sub.isNil = fnz ((codesOf D t h f kn (decide (sub.len = 0))).drop j))) (fun i _ => 7 - (intOf i).toNat)
      case atStart => exact ⟨0, by omega, rfl, Below.refl _ _, HC.out.symm⟩
      case round =>
        obtain ⟨j, hj, rfl, HJ, HJC⟩ := hrel
        have zj := HJ.out.size
        have EJ : Hid (Env w0 wr S D Bt Bf R h a1 a2 a3 at_ af sub t f) := EV.out.up HJ.out
        have rj := fun o => row_cell EJ.out.tc.rl o
        have pj := fun o => row_cell ((HJ.out.block w1.heap.size (by omega)).trans PV.out) o
        have QJ : Hid (Below w.heap.size w wr) := QVw.out.trans (HJ.out.mono (by omega))
        unfold rulesV tcV at rj
        by_cases hj7 : j < 7
        case neg =>
          obtain rfl : j = 7 := by omega
          have HZS : Hid (selC D t h sub.isNil = 0) := HJC.out
          have xj := fun o => row_cell ((HJ.out.block wo.heap.size (by omega)).trans XV.out) o
          have yj := fun o => row_cell ((HJ.out.block w.heap.size (by omega)).trans YV.out) o
          clear rj HJC
          go_wp2_with fail
          have HKN : Hid (((h.k == 1) && !kn) = false) := by
            have hall := fnz_zero (HC.out.trans HZS.out)
            have := hall (if ((h.k == 1) && !kn) = true then 9 else 0) (by unfold codesOf; simp)
            cases hc : ((h.k == 1) && !kn)
            · rfl
            · rw [hc] at this; simp at this
          have HEY : Hid (setC S D t s = if setC S D (inU S t h f) sub = 0 then setC S D t rest else setC S D (inU S t h f) sub) := by rw [Hid, HEX.out, HZS.out, if_pos rfl, inU_in HSP.out HKN.out]
          have HIB : Hid (G.TdBd 1048576 (inU S t h f)) := inU_bd HTB.out HSB.out
          obtain ⟨y, hy⟩ : ∃ y, y = setC S D (inU S t h f) sub := ⟨_, rfl⟩
          have HYY : Hid (y = setC S D (inU S t h f) sub) := hy
          rw [← hy] at HEY
          clear hy HKN HEX
          refine G.region_rel (n := 7) (by kernel_rfl) (by kernel_rfl) (by kernel_rfl) (fun u => ⟨#[.agg #[.map (some Bt), .map (some Bf), .slice (some ⟨R, 0, none⟩) 7 7], .slice (some ⟨b, o, none⟩) s.len c', .agg #[.string t.nm, .slice at_ t.fs.length ct], .pointer (some ⟨w.heap.size, 0, none⟩), undef, .pointer (some ⟨w.heap.size + 1, 0, none⟩), u6, undef, .pointer (some ⟨wo.heap.size, 0, none⟩), .pointer (some ⟨w1.heap.size, 0, none⟩), undef, u11, u12, u13, .slice (some ⟨b, o, none⟩) s.len c', .int .i64 s.len, .int .i64 k, .bool true, .pointer (some ⟨b, o + k * 6, none⟩), .agg #[.int .i64 h.k, .string h.al, .string h.nm, .slice a1 h.args.length c1, .slice a2 h.dirs.length c2, .slice a3 sub.len c3], .agg #[.int .i64 h.k, .string h.al, .string h.nm, .slice a1 h.args.length c1, .slice a2 h.dirs.length c2, .slice a3 sub.len c3], .agg #[.string t.nm, .slice at_ t.fs.length ct], spV h sub.len a1 c1 a2 c2 a3 c3 t at_ ct f af cf kn, .pointer (some ⟨w.heap.size, 2, none⟩), .slice (some ⟨R, 0, none⟩) 7 7, .int .i64 7, .int .i64 ((7 : Nat) : Int), .bool false, u28, u29, u30, u31, u32, u33, u34, u35, u36, u 37, u 38, u 39, u 40, u 41, u 42, u 43, u44, u45, u46, u47], []⟩) (fun n => match n with | 37 => u37 | 38 => u38 | 39 => u39 | 40 => u40 | 41 => u41 | 42 => u42 | 43 => u43 | _ => undef) (fun i => 37 + i) (fun i j _ _ h => by omega) (PS wo.heap.size Bt Bf R a3 sub.len c3 (spV h sub.len a1 c1 a2 c2 a3 c3 t at_ ct f af cf kn) (inU S t h f) y) (fun _ _ => True) (PS.up _ _ _ _ _ _ _ _ _ _) trivial ?step ?last
          case step =>
            intro u w2 i hi hbw _ hdep
            have zw2 := hbw.size
            have xw := row_cell ((hbw.block wo.heap.size (by omega)).trans ((HJ.out.block wo.heap.size (by omega)).trans XV.out)) 5
            have yw := fun o => row_cell ((hbw.block w.heap.size (by omega)).trans ((HJ.out.block w.heap.size (by omega)).trans YV.out)) o
            have pw := fun o => row_cell ((hbw.block w1.heap.size (by omega)).trans ((HJ.out.block w1.heap.size (by omega)).trans PV.out)) o
            have EW : Hid (Env w0 w2 S D Bt Bf R h a1 a2 a3 at_ af sub t f) := EJ.out.up hbw
            clear hbw xj yj pj
            have hcase : i = 0 ∨ i = 1 ∨ i = 2 ∨ i = 3 ∨ i = 4 ∨ i = 5 ∨ i = 6 := by omega
            rcases hcase with rfl | rfl | rfl | rfl | rfl | rfl | rfl
            · refine wpOp_step rfl (fun K hK => ?_)
              clear hdep
              go_simp
              exact hK _ _ ⟨_, rfl, Below.refl _ _, rfl, trivial⟩
            · refine wpOp_step rfl (fun K hK => ?_)
              clear hdep
              go_simp
              exact hK _ _ ⟨_, rfl, Below.refl _ _, rfl, trivial⟩
            · have d1 : u 38 = .pointer (some ⟨wo.heap.size, 5, none⟩) := hdep _ rfl ⟨1, .data⟩ (by simp) rfl
              refine wpOp_step rfl (fun K hK => ?_)
              clear hdep
              go_simp
              exact hK _ _ ⟨_, by simp [G.upd, d1], Below.refl _ _, rfl, trivial⟩
            · refine wpOp_step rfl (fun K hK => ?_)
              clear hdep
              go_simp
              exact hK _ _ ⟨_, rfl, Below.refl _ _, rfl, trivial⟩
            · refine wpOp_step rfl (fun K hK => ?_)
              clear hdep
              go_simp
              exact hK _ _ ⟨_, rfl, Below.refl _ _, rfl, trivial⟩
            · have d3 : u 40 = .agg #[.map (some Bt), .map (some Bf), .slice (some ⟨R, 0, none⟩) 7 7] := hdep _ rfl ⟨3, .data⟩ (by simp) rfl
              have d4 : u 41 = .agg #[.int .i64 h.k, .string h.al, .string h.nm, .slice a1 h.args.length c1, .slice a2 h.dirs.length c2, .slice a3 sub.len c3, .string t.nm, .slice at_ t.fs.length ct, .string f.nm, .slice af f.args.length cf, .string f.ty, .bool f.ls, .bool f.bg, .bool kn] := hdep _ rfl ⟨4, .data⟩ (by simp) rfl
              refine wpOp_step rfl (fun K hK => ?_)
              clear hdep
              go_simp
              refine (type_within h sub.len a1 a2 a3 at_ af c1 c2 c3 ct cf t f kn Bt Bf (some ⟨R, 0, none⟩) 7 7 S w0 _ HO.out EW.out.tc.ty EW.out.tc.be hft EW.out.rt).mono ?_
              rintro e w8 ⟨⟨t', a8, c8, rfl, ht8, r8⟩, hb8⟩
              subst ht8
              exact hK _ _ ⟨tdV (inU S t h f) a8 c8, by simp [G.upd, d3, d4], hb8, ⟨a8, c8, rfl, G.FdRow.up r8 hb8⟩, trivial⟩
            · have d0 : u 37 = .agg #[.map (some Bt), .map (some Bf), .slice (some ⟨R, 0, none⟩) 7 7] := hdep _ rfl ⟨0, .data⟩ (by simp) rfl
              have d2 : u 39 = .slice a3 sub.len c3 := hdep _ rfl ⟨2, .data⟩ (by simp) rfl
              have p5 : PS wo.heap.size Bt Bf R a3 sub.len c3 (spV h sub.len a1 c1 a2 c2 a3 c3 t at_ ct f af cf kn) (inU S t h f) y 5 (u 42) w2 := hdep _ rfl ⟨5, .data⟩ (by simp) rfl
              obtain ⟨a8, c8, d5, r8⟩ := p5
              refine wpOp_step rfl (fun K hK => ?_)
              clear hdep
              go_simp
              refine (IS.out (d - 1) (inU S t h f) a8 c8 a3 c3 Bt Bf R w0 _ EW.out.tc EW.out.r3 r8 HIB.out e2 E3.out O3.out).mono ?_
              rintro e w8 ⟨rfl, hb8⟩
              rw [← HYY.out]
              exact hK _ _ ⟨.int .i64 y, by simp [G.upd, d0, d2, d5], hb8, rfl, trivial⟩
          case last =>
            intro u w2 hbw _ hp
            have d6 : u 43 = .int .i64 y := hp 6 (by omega)
            have QL : Hid (Below w.heap.size w w2) := QJ.out.trans (hbw.mono (by have := QJ.out.size; omega))
            have WL : Hid (Below W.heap.size W w2) := (QV.out.trans (HJ.out.mono (by omega))).trans (hbw.mono (by omega))
            clear hp hbw xj yj pj
            refine wpOp_step rfl (fun K hK => ?_)
            go_simp
            refine hK _ _ ?_
            clear hK K
            by_cases hz : y = 0
            · have HN : Hid (setC S D t s = setC S D t rest) := by rw [Hid, HEY.out, if_pos hz]
              subst hz
              clear HEY
              go_wp2_with fail
              exact ⟨⟨k + 1, rest, HK2, by go_num, WL, HZ2, E4, O4, HF2, HN⟩, by simp [intOf]; omega⟩
            · have HN : Hid (y = setC S D t s) := by rw [Hid, HEY.out, if_neg hz]
              have hz' : (y == 0) = false := by rw [beq_eq_false_iff_ne]; exact hz
              clear HEY
              go_wp2_with fail
              go_ret
              exact ⟨ret_i HN.out, QL.out⟩
        have HTAIL : Hid (∀ r : Int, ¬ r = 0 → selC D t h sub.isNil = r → r = setC S D t s) := fun r h1 h2 => by rw [HEX.out, h2, if_neg h1]
        obtain ⟨w1f, hFr⟩ := EJ.out.tc.fr
        have hcase : j = 0 ∨ j = 1 ∨ j = 2 ∨ j = 3 ∨ j = 4 ∨ j = 5 ∨ j = 6 := by omega
        clear hj hj7
        rcases hcase with rfl | rfl | rfl | rfl | rfl | rfl | rfl
        · obtain ⟨r, hr⟩ : ∃ r : Int, r = if h.dirs.all dirB = true then 0 else 10 := ⟨_, rfl⟩
          have HRJ : Hid (selC D t h sub.isNil = fnz (r :: (codesOf D t h f kn (decide (sub.len = 0))).drop 1)) := by rw [hr]; exact HJC.out
          clear HJC
          go_wp2_with fail
          refine (rule_dirs h sub.len a1 a2 a3 at_ af c1 c2 c3 ct cf t f kn _ EJ.out.r2 E1.out _ hr).mono ?_
          rintro e w2 ⟨rfl, hb2⟩
          have B2' : Hid (Below V.heap.size V w2) := HJ.out.trans (hb2.mono (by omega))
          have Q2' : Hid (Below w.heap.size w w2) := QJ.out.trans (hb2.mono (by have := QJ.out.size; omega))
          clear hb2 rj pj hr hFr
          by_cases hz : r = 0
          · have HN : Hid (selC D t h sub.isNil = fnz ((codesOf D t h f kn (decide (sub.len = 0))).drop 1)) := by rw [Hid, HRJ.out, fnz_next hz]
            subst hz
            go_wp2_with fail
            exact ⟨⟨0+1, by omega, by go_num, B2', HN⟩, by simp [intOf]⟩
          · have HN : Hid (r = setC S D t s) := HTAIL.out r hz (by rw [HRJ.out, fnz_here hz])
            have hz' : (r == 0) = false := by rw [beq_eq_false_iff_ne]; exact hz
            clear HRJ HTAIL
            go_wp2_with fail
            go_ret
            exact ⟨ret_i HN.out, Q2'.out⟩
        · obtain ⟨r, hr⟩ : ∃ r : Int, r = if ((h.k == 2) && !frOK D h.nm t.nm) = true then 12 else 0 := ⟨_, rfl⟩
          have HRJ : Hid (selC D t h sub.isNil = fnz (r :: (codesOf D t h f kn (decide (sub.len = 0))).drop 2)) := by rw [hr]; exact HJC.out
          clear HJC
          go_wp2_with fail
          refine (rule_spread h sub.len a1 a2 a3 at_ af c1 c2 c3 ct cf t f kn Bt Bf none 0 0 D w1f _ hFr snm _ hr).mono ?_
          rintro e w2 ⟨rfl, hb2⟩
          have B2' : Hid (Below V.heap.size V w2) := HJ.out.trans (hb2.mono (by omega))
          have Q2' : Hid (Below w.heap.size w w2) := QJ.out.trans (hb2.mono (by have := QJ.out.size; omega))
          clear hb2 rj pj hr hFr
          by_cases hz : r = 0
          · have HN : Hid (selC D t h sub.isNil = fnz ((codesOf D t h f kn (decide (sub.len = 0))).drop 2)) := by rw [Hid, HRJ.out, fnz_next hz]
            subst hz
            go_wp2_with fail
            exact ⟨⟨1+1, by omega, by go_num, B2', HN⟩, by simp [intOf]⟩
          · have HN : Hid (r = setC S D t s) := HTAIL.out r hz (by rw [HRJ.out, fnz_here hz])
            have hz' : (r == 0) = false := by rw [beq_eq_false_iff_ne]; exact hz
            clear HRJ HTAIL
            go_wp2_with fail
            go_ret
            exact ⟨ret_i HN.out, Q2'.out⟩
        · obtain ⟨r, hr⟩ : ∃ r : Int, r = if ((h.k == 3) && !inlOK h.nm t.nm) = true then 12 else 0 := ⟨_, rfl⟩
          have HRJ : Hid (selC D t h sub.isNil = fnz (r :: (codesOf D t h f kn (decide (sub.len = 0))).drop 3)) := by rw [hr]; exact HJC.out
          clear HJC
          go_wp2_with fail
          refine (rule_inline h sub.len a1 a2 a3 at_ af c1 c2 c3 ct cf t f kn _).mono ?_
          rw [← hr]
          rintro e w2 ⟨rfl, hb2⟩
          have B2' : Hid (Below V.heap.size V w2) := HJ.out.trans (hb2.mono (by omega))
          have Q2' : Hid (Below w.heap.size w w2) := QJ.out.trans (hb2.mono (by have := QJ.out.size; omega))
          clear hb2 rj pj hr hFr
          by_cases hz : r = 0
          · have HN : Hid (selC D t h sub.isNil = fnz ((codesOf D t h f kn (decide (sub.len = 0))).drop 3)) := by rw [Hid, HRJ.out, fnz_next hz]
            subst hz
            go_wp2_with fail
            exact ⟨⟨2+1, by omega, by go_num, B2', HN⟩, by simp [intOf]⟩
          · have HN : Hid (r = setC S D t s) := HTAIL.out r hz (by rw [HRJ.out, fnz_here hz])
            have hz' : (r == 0) = false := by rw [beq_eq_false_iff_ne]; exact hz
            clear HRJ HTAIL
            go_wp2_with fail
            go_ret
            exact ⟨ret_i HN.out, Q2'.out⟩
        · obtain ⟨r, hr⟩ : ∃ r : Int, r = if ((h.k == 1) && !kn) = true then 9 else 0 := ⟨_, rfl⟩
          have HRJ : Hid (selC D t h sub.isNil = fnz (r :: (codesOf D t h f kn (decide (sub.len = 0))).drop 4)) := by rw [hr]; exact HJC.out
          clear HJC
          go_wp2_with fail
          refine (rule_field h sub.len a1 a2 a3 at_ af c1 c2 c3 ct cf t f kn _).mono ?_
          rw [← hr]
          rintro e w2 ⟨rfl, hb2⟩
          have B2' : Hid (Below V.heap.size V w2) := HJ.out.trans (hb2.mono (by omega))
          have Q2' : Hid (Below w.heap.size w w2) := QJ.out.trans (hb2.mono (by have := QJ.out.size; omega))
          clear hb2 rj pj hr hFr
          by_cases hz : r = 0
          · have HN : Hid (selC D t h sub.isNil = fnz ((codesOf D t h f kn (decide (sub.len = 0))).drop 4)) := by rw [Hid, HRJ.out, fnz_next hz]
            subst hz
            go_wp2_with fail
            exact ⟨⟨3+1, by omega, by go_num, B2', HN⟩, by simp [intOf]⟩
          · have HN : Hid (r = setC S D t s) := HTAIL.out r hz (by rw [HRJ.out, fnz_here hz])
            have hz' : (r == 0) = false := by rw [beq_eq_false_iff_ne]; exact hz
            clear HRJ HTAIL
            go_wp2_with fail
            go_ret
            exact ⟨ret_i HN.out, Q2'.out⟩
        · obtain ⟨r, hr⟩ : ∃ r : Int, r = if argsN f [] h.args = true then 0 else 10 := ⟨_, rfl⟩
          have HRJ : Hid (selC D t h sub.isNil = fnz (r :: (codesOf D t h f kn (decide (sub.len = 0))).drop 5)) := by rw [hr]; exact HJC.out
          clear HJC
          go_wp2_with fail
          refine (rule_args h sub.len a1 a2 a3 at_ af c1 c2 c3 ct cf t f kn _ EJ.out.r1 hcap E1.out EJ.out.rf hfa _ hr).mono ?_
          rintro e w2 ⟨rfl, hb2⟩
          have B2' : Hid (Below V.heap.size V w2) := HJ.out.trans (hb2.mono (by omega))
          have Q2' : Hid (Below w.heap.size w w2) := QJ.out.trans (hb2.mono (by have := QJ.out.size; omega))
          clear hb2 rj pj hr hFr
          by_cases hz : r = 0
          · have HN : Hid (selC D t h sub.isNil = fnz ((codesOf D t h f kn (decide (sub.len = 0))).drop 5)) := by rw [Hid, HRJ.out, fnz_next hz]
            subst hz
            go_wp2_with fail
            exact ⟨⟨4+1, by omega, by go_num, B2', HN⟩, by simp [intOf]⟩
          · have HN : Hid (r = setC S D t s) := HTAIL.out r hz (by rw [HRJ.out, fnz_here hz])
            have hz' : (r == 0) = false := by rw [beq_eq_false_iff_ne]; exact hz
            clear HRJ HTAIL
            go_wp2_with fail
            go_ret
            exact ⟨ret_i HN.out, Q2'.out⟩
        · obtain ⟨r, hr⟩ : ∃ r : Int, r = if f.args.all (needB h.args) = true then 0 else 10 := ⟨_, rfl⟩
          have HRJ : Hid (selC D t h sub.isNil = fnz (r :: (codesOf D t h f kn (decide (sub.len = 0))).drop 6)) := by rw [hr]; exact HJC.out
          clear HJC
          go_wp2_with fail
          refine (rule_needs h sub.len a1 a2 a3 at_ af c1 c2 c3 ct cf t f kn _ EJ.out.r1 E1.out EJ.out.rf hfa _ hr).mono ?_
          rintro e w2 ⟨rfl, hb2⟩
          have B2' : Hid (Below V.heap.size V w2) := HJ.out.trans (hb2.mono (by omega))
          have Q2' : Hid (Below w.heap.size w w2) := QJ.out.trans (hb2.mono (by have := QJ.out.size; omega))
          clear hb2 rj pj hr hFr
          by_cases hz : r = 0
          · have HN : Hid (selC D t h sub.isNil = fnz ((codesOf D t h f kn (decide (sub.len = 0))).drop 6)) := by rw [Hid, HRJ.out, fnz_next hz]
            subst hz
            go_wp2_with fail
            exact ⟨⟨5+1, by omega, by go_num, B2', HN⟩, by simp [intOf]⟩
          · have HN : Hid (r = setC S D t s) := HTAIL.out r hz (by rw [HRJ.out, fnz_here hz])
            have hz' : (r == 0) = false := by rw [beq_eq_false_iff_ne]; exact hz
            clear HRJ HTAIL
            go_wp2_with fail
            go_ret
            exact ⟨ret_i HN.out, Q2'.out⟩
        · obtain ⟨r, hr⟩ : ∃ r : Int, r = if ((h.k == 1) && (G.isIn f.ty != decide (sub.len = 0))) = true then 11 else 0 := ⟨_, rfl⟩
          have HRJ : Hid (selC D t h sub.isNil = fnz (r :: (codesOf D t h f kn (decide (sub.len = 0))).drop 7)) := by rw [hr]; exact HJC.out
          clear HJC
          go_wp2_with fail
          refine (rule_leaf h sub.len a1 a2 a3 at_ af c1 c2 c3 ct cf t f kn _).mono ?_
          rw [← hr]
          rintro e w2 ⟨rfl, hb2⟩
          have B2' : Hid (Below V.heap.size V w2) := HJ.out.trans (hb2.mono (by omega))
          have Q2' : Hid (Below w.heap.size w w2) := QJ.out.trans (hb2.mono (by have := QJ.out.size; omega))
          clear hb2 rj pj hr hFr
          by_cases hz : r = 0
          · have HN : Hid (selC D t h sub.isNil = fnz ((codesOf D t h f kn (decide (sub.len = 0))).drop 7)) := by rw [Hid, HRJ.out, fnz_next hz]
            subst hz
            go_wp2_with fail
            exact ⟨⟨6+1, by omega, by go_num, B2', HN⟩, by simp [intOf]⟩
          · have HN : Hid (r = setC S D t s) := HTAIL.out r hz (by rw [HRJ.out, fnz_here hz])
            have hz' : (r == 0) = false := by rw [beq_eq_false_iff_ne]; exact hz
            clear HRJ HTAIL
            go_wp2_with fail
            go_ret
            exact ⟨ret_i HN.out, Q2'.out⟩
end Go.Proofs.YtkjndghkimnjeaaGreat
