/- The tests of names, on both sides. -/
import Derived.Test.YthbjihbpjajggaaGreatVaFrag
import Derived.Test.YthbjihbpjajggaaGreatGRegionThree
namespace Go.Proofs.YthbjihbpjajggaaGreat
open Go.ChangeShapes Go.WideShapes Go.ChangeAt Go.RowKit
set_option linter.unusedVariables false

/-- Bounds of a list of selections. -/
def LB (s : List (Hd × Sels)) : Prop := s.length ≤ 1048576 ∧ ∀ x ∈ s, HdBd 1048576 x.1 ∧ x.2.len ≤ 1048576 ∧ SelsBd 1048576 x.2
theorem SelsBd.mem : ∀ {s : Sels}, SelsBd 1048576 s → ∀ x ∈ toL s, HdBd 1048576 x.1 ∧ x.2.len ≤ 1048576 ∧ SelsBd 1048576 x.2
  | .nil, _, x, hx => by simp [toL] at hx
  | .cons h sub rest, hs, x, hx => by
    rcases List.mem_cons.1 hx with rfl | hx
    · exact ⟨hs.1, hs.2.1, hs.2.2.1⟩
    · exact SelsBd.mem hs.2.2.2 x hx
theorem SelsBd.lb {s : Sels} (h : SelsBd 1048576 s) (hl : s.len ≤ 1048576) : LB (toL s) := ⟨by rw [toL_len]; exact hl, h.mem⟩
theorem LB.inS {l : List De} (hd : DefsBd 1048576 l) {x : Hd × Sels} (h : x.2.len ≤ 1048576 ∧ SelsBd 1048576 x.2) : LB (toL (inS l x)) ∧ (Go.Proofs.YthbjihbpjajggaaGreat.inS l x).len ≤ 1048576 := by
  unfold Go.Proofs.YthbjihbpjajggaaGreat.inS frS
  split
  · split
    · exact ⟨⟨by simp [toL], fun x hx => by simp [toL] at hx⟩, Nat.zero_le _⟩
    · rename_i y hy
      have := hd.2 y (List.mem_of_find?_eq_some hy)
      exact ⟨SelsBd.lb this.2.2.2 this.2.2.1, this.2.2.1⟩
  · exact ⟨SelsBd.lb h.2 h.1, h.1⟩
def bitN (b : Bool) : Int := if b then 1 else 0
theorem spec_bitV (b : Bool) (w : World) : Calls Tryz.prog 104 #[.bool b] w fun e w' => e = .returned (.int .i64 (bitN b)) ∧ w' = w := by
  cases b
  · go_enter Tryz.func104, Tryz.ntmps104
    go_wp2_with fail
    go_ret
    exact ⟨rfl, rfl⟩
  · go_enter Tryz.func104, Tryz.ntmps104
    go_wp2_with fail
    go_ret
    exact ⟨rfl, rfl⟩
/-- What l04Left tells. -/
def LeftP (w0 : World) (a : Option Addr) (c : Nat) (l : List De) (n : Nat) : Prop := ∀ (s : List (Hd × Sels)) (a1 : Option Addr) (c1 : Nat) (d : Nat) (w : World), d ≤ 12 → FRow w0 0 w.heap.size w a1 s → Below w0.heap.size w0 w → LB s →
    Calls Tryz.prog 69 #[.agg #[.slice a l.length c], .slice a1 s.length c1, .int .i64 ((12 : Int) - d), .int .i64 ((400 : Int) - n)] w fun e w' => (∃ (y : Int) (m : Nat), Lim l s d n y m ∧ e = .returned (.tuple #[.int .i64 ((400 : Int) - m), .bool (y != 8)])) ∧ Below w.heap.size w w'
/-- Where the loop stands. -/
def LimTo (l : List De) (s : List (Hd × Sels)) (d n k m : Nat) : Prop := (m ≤ 400 ∧ ∀ y m', Lim l (s.drop k) d m y m' → Lim l s d n y m') ∨ (m = 401 ∧ Lim l s d n 6 401)
set_option maxHeartbeats 8000000 in
set_option maxRecDepth 40000 in
theorem spec_left (w0 : World) (a : Option Addr) (c : Nat) (l : List De) (ac : Nat → Option Addr × Nat) (hac : DocAc w0 a l ac) (hdb : DefsBd 1048576 l) (n : Nat) (hn : n ≤ 400) : LeftP w0 a c l n := by
  induction hN : 400 - n using Nat.strongRecOn generalizing n with
  | _ N ih =>
  subst hN
  intro s a1 c1 d w hd hr hb0 hlb
  have IH : Hid (∀ n', n < n' → n' ≤ 400 → LeftP w0 a c l n') := fun n' h1 h2 => ih (400 - n') (by omega) n' h2 rfl
  have HC : Hid (DocAc w0 a l ac) := hac
  have HDB : Hid (DefsBd 1048576 l) := hdb
  have HLB : Hid (LB s) := hlb
  have hsl : s.length ≤ 1048576 := hlb.1
  have hll : l.length ≤ 1048576 := hdb.1
  obtain ⟨V, hV⟩ : ∃ V, V = w.alloc (.cells #[.slice a l.length c] 38) := ⟨_, rfl⟩
  have bV : Below w.heap.size w V := by rw [hV]; exact (Below.refl _ _).alloc (Nat.le_refl _) _
  have c0 : V.heap[w.heap.size]? = some (.cells #[.slice a l.length c] 38 (0, 0)) := by rw [hV]; exact heap_alloc_new _ _
  have z0 := (Array.getElem?_eq_some_iff.1 c0).1
  have T : Hid (∀ W, Below V.heap.size V W → W.heap[w.heap.size]? = some (.cells #[.slice a l.length c] 38 (0, 0)) ∧ FRow w0 0 W.heap.size W a1 s ∧ Below w0.heap.size w0 W ∧ Below w.heap.size w W) := fun W hW =>
    have hw := bV.trans (hW.mono bV.size)
    ⟨(hW.block _ z0).trans c0, Row.up hr hw, hb0.trans (hw.mono hb0.size), hw⟩
  obtain ⟨dn, hdn⟩ : ∃ dn : Int, Hid (dn = 12 - d) := ⟨_, rfl⟩
  obtain ⟨lf, hlf⟩ : ∃ lf : Int, Hid (lf = 400 - n) := ⟨_, rfl⟩
  rw [← hdn.out, ← hlf.out]
  have hdn0 : 0 ≤ dn := by rw [hdn.out]; omega
  have hdn1 : dn ≤ 12 := by rw [hdn.out]; omega
  clear hr ih hac hdb hlb hb0 c0 bV
  go_enter Tryz.func69, Tryz.ntmps69
  go_upto_region 1 with fail
  rw [← hV]
  clear hV
  go_cut [23] from 17 to 23 (fun u wx => u = .bool ((dn == 0) && decide (0 < s.length)) ∧ wx = V)
  case first =>
    cases hb : (dn == 0) with
    | true =>
      have : dn = 0 := by simpa using hb
      subst this
      go_wp2_with fail
      go_meet
      exact ⟨by simp, rfl⟩
    | false =>
      go_wp2_with fail
      go_meet
      exact ⟨by rw [hb]; rfl, rfl⟩
  obtain ⟨rfl, rfl⟩ := hcut
  cases hdeep : ((dn == 0) && decide (0 < s.length)) with
  | true =>
    have HE : Hid (Lim l s d n 8 n) := by
      simp only [Bool.and_eq_true, beq_iff_eq, decide_eq_true_eq] at hdeep
      have := hdn.out
      cases hs : s with
      | nil => rw [hs] at hdeep; simp at hdeep
      | cons x r => exact .deep (by omega)
    have GB : Hid _ := (T.out _ (Below.refl _ _)).2.2.2
    go_wp2_with fail
    go_ret2
    exact ⟨⟨8, n, HE.out, by rw [← hlf.out]; rfl⟩, GB.out⟩
  | false =>
  have HNO : Hid (0 < s.length → d ≤ 11) := fun h => by
    rw [decide_eq_true h, Bool.and_true, beq_eq_false_iff_ne] at hdeep
    have := hdn.out
    omega
  clear hdeep
  go_wp2_with fail
  obtain ⟨WV, rfl⟩ : ∃ x, x = wc := ⟨_, rfl⟩
  go_loopw [3, 10] (fun v i w' => ∃ (k m : Nat), v = .int .i64 ((400 : Int) - m) ∧ i = .int .i64 k ∧ k ≤ s.length ∧ n ≤ m ∧ m ≤ 401 ∧ Hid (Below WV.heap.size WV w') ∧ Hid (LimTo l s d n k m)) (fun _ i _ => s.length - (intOf i).toNat)
  case atStart => exact ⟨0, n, by rw [hlf.out], rfl, Nat.zero_le _, Nat.le_refl _, by omega, Below.refl _ _, .inl ⟨hn, fun y m' h => by simpa using h⟩⟩
  case round =>
    obtain ⟨k, m, rfl, rfl, hk, hnm, hm, HBW, HT⟩ := hrel
    have TW : Hid _ := T.out _ HBW.out
    have GB : Hid (Below w.heap.size w wr) := TW.out.2.2.2
    by_cases hm4 : m = 401
    · subst hm4
      have HE : Hid (Lim l s d n 6 401) := by
        rcases HT.out with h | h
        · omega
        · exact h.2
      by_cases hlt : k < s.length
      · have hlt' : (k : Int) < s.length := by omega
        go_wp2_with fail
        go_ret2
        exact ⟨⟨6, 401, HE.out, rfl⟩, GB.out⟩
      · have hlt' : ¬ (k : Int) < s.length := by omega
        go_wp2_with fail
        go_ret2
        exact ⟨⟨6, 401, HE.out, rfl⟩, GB.out⟩
    have hm5 : m ≤ 400 := by omega
    have HTO : Hid (∀ y m', Lim l (s.drop k) d m y m' → Lim l s d n y m') := by
      rcases HT.out with h | h
      · exact h.2
      · omega
    clear HT hm hm4
    by_cases hlt : k < s.length
    case neg =>
      have hlt' : ¬ (k : Int) < s.length := by omega
      have HE : Hid (Lim l s d n 0 m) := HTO.out 0 m (by rw [List.drop_of_length_le (by omega)]; exact .nil)
      clear HTO
      go_wp2_with fail
      go_ret2
      exact ⟨⟨0, m, HE.out, rfl⟩, GB.out⟩
    have hlt' : (k : Int) < s.length := by omega
    have hge : (0 : Int) ≤ 400 - m := by omega
    have HDR : Hid (s.drop k = s[k] :: s.drop (k + 1)) := List.drop_eq_getElem_cons hlt
    have hd11 : d ≤ 11 := HNO.out (by omega)
    obtain ⟨b, o, b1, e1, b2, e2, b3, e3, ha, hbl, d0, d1, d2, d3, d4, d5, _, _, _, r3⟩ := FRow.cells TW.out.2.1 k hlt
    subst ha
    have HR3 : Hid (SelRow 0 w0.heap.size w0 b3 s[k].2) := r3
    have HXB : Hid (HdBd 1048576 s[k].1 ∧ s[k].2.len ≤ 1048576 ∧ SelsBd 1048576 s[k].2) := HLB.out.2 _ (List.getElem_mem hlt)
    have x0 := fun o => row_cell TW.out.1 o
    clear r3
    by_cases hmany : m = 400
    · subst hmany
      have HE : Hid (Lim l s d n 6 401) := HTO.out 6 401 (by rw [HDR.out]; exact .many hd11 (Nat.le_refl _))
      clear HTO HDR
      go_wp2_with fail
      go_ret2
      exact ⟨⟨6, 401, HE.out, rfl⟩, GB.out⟩
    have hm3 : m < 400 := by omega
    have hw1 : ¬ ((400 : Int) - m - 1 < 0) := by omega
    have HSUB : Hid (∀ y q, Lim l (toL (inS l s[k])) (d + if (s[k].1.k == 1) = true then 1 else 0) (m + 1) y q → y ≠ 0 → Lim l s d n y q) := fun y q h hy => HTO.out y q (by rw [HDR.out]; exact .bad hd11 hm3 h hy)
    have HNXT : Hid (∀ q, Lim l (toL (inS l s[k])) (d + if (s[k].1.k == 1) = true then 1 else 0) (m + 1) 0 q → ∀ y m', Lim l (s.drop (k + 1)) d q y m' → Lim l s d n y m') := fun q h y m' h' => HTO.out y m' (by rw [HDR.out]; exact .ok hd11 hm3 h h')
    obtain ⟨x, hx⟩ : ∃ x, x = s[k] := ⟨_, rfl⟩
    rw [← hx] at d0 d1 d2 d3 d4 d5 HR3 HXB HSUB HNXT
    clear HTO HDR hx
    obtain ⟨dd, hdd⟩ : ∃ dd : Int, Hid (dd = dn - bitN (x.1.k == 1)) := ⟨_, rfl⟩
    have hbn : 0 ≤ bitN (x.1.k == 1) ∧ bitN (x.1.k == 1) ≤ 1 := by unfold bitN; split <;> omega
    have hbn0 := hbn.1
    have hbn1 := hbn.2
    clear hbn
    generalize hBN : bitN (x.1.k == 1) = bn at *
    have HBN : Hid (bitN (x.1.k == 1) = bn) := hBN
    clear hBN
    have hdd0 : -1 ≤ dd ∧ dd ≤ 12 := by rw [hdd.out]; omega
    have HDC : Hid _ := TW.out.1
    have HW0 : Hid (Below w0.heap.size w0 wr) := TW.out.2.2.1
    have hzw : w.heap.size < wr.heap.size := by have := HBW.out.size; omega
    go_upto_if 59 with (first | (go_at_call 104; refine (spec_bitV _ _).mono ?_; rintro e y9 ⟨rfl, hw9⟩; have hw8 := hw9.symm; clear hw9; subst hw8; rw [HBN.out]) | fail)
    rw [← hdd.out]
    go_cut [11, 13, 14] from 25 to 83 (fun nx p q wx => ∃ bx cx, nx = .slice bx (inS l x).len cx ∧ Hid (SelRow 0 w0.heap.size w0 bx (inS l x)) ∧ Hid (Below wr.heap.size wr wx))
    case first =>
      cases hk2 : (x.1.k == 2) with
      | true =>
        have HIN : Hid (inS l x = frS l x.1.nm) := by unfold Hid inS; rw [if_pos hk2]
        go_upto_region 12 with fail
        refine G.region_rel5 (n := 12) (k := 1) (by omega) (by kernel_rfl) (by kernel_rfl) (by kernel_rfl) (fun u => ⟨#[.agg #[.slice a l.length c], .slice (some ⟨b, o, none⟩) s.length c1, .int .i64 dn, .int .i64 (400 - m - 1), .pointer (some ⟨w.heap.size, 0, none⟩), undef, undef, undef, u8, u9, .int .i64 k, .slice b3 x.2.len e3, .int .i64 dd, u 13, u 14, u15, u16, u17, u18, u19, u20, u21, u22, .bool false, undef, .int .i64 k, .slice (some ⟨b, o, none⟩) s.length c1, .int .i64 s.length, .bool true, .bool true, .int .i64 (400 - m), .bool true, .bool true, u33, u34, .int .i64 (400 - m), .int .i64 (400 - m - 1), .int .i64 (400 - m - 1), .bool false, u39, .slice (some ⟨b, o, none⟩) s.length c1, .int .i64 k, .pointer (some ⟨b, o + k * 6, none⟩), .pointer (some ⟨b, o + k * 6 + 5, none⟩), .slice b3 x.2.len e3, .int .i64 dn, .slice (some ⟨b, o, none⟩) s.length c1, .int .i64 k, .pointer (some ⟨b, o + k * 6, none⟩), .pointer (some ⟨b, o + k * 6, none⟩), .int .i64 x.1.k, .bool (x.1.k == 1), .int .i64 bn, .int .i64 dd, .slice (some ⟨b, o, none⟩) s.length c1, .int .i64 k, .pointer (some ⟨b, o + k * 6, none⟩), .pointer (some ⟨b, o + k * 6, none⟩), .int .i64 x.1.k, .bool true, u 60, u 61, u 62, u 63, u 64, u 65, u 66, u 67, u 68, u 69, u70, u71, u72, u73, u74, u75, u76, u77, u78, u79, u80, u81, u82, u83, undef], []⟩) (fun n => match n with | 61 => u61 | 62 => u62 | 63 => u63 | 64 => u64 | 65 => u65 | 66 => u66 | 67 => u67 | 60 => u60 | 68 => u68 | 69 => u69 | 13 => u13 | 14 => u14 | _ => undef) (fun i => [61, 62, 63, 64, 65, 66, 67, 60, 68, 69, 13, 99].getD i 0) (fun i j hi hj h => (by decide : ∀ i, i < 12 → ∀ j, j < 12 → [61, 62, 63, 64, 65, 66, 67, 60, 68, 69, 13, 99].getD i 0 = [61, 62, 63, 64, 65, 66, 67, 60, 68, 69, 13, 99].getD j 0 → i = j) i hi j hj h)
          (fun i v _ => match i with | 0 => v = .agg #[.slice a l.length c] | 1 => v = .slice (some ⟨b, o, none⟩) s.length c1 | 2 => v = .int .i64 k | 3 => v = .pointer (some ⟨b, o + k * 6, none⟩) | 4 => v = .pointer (some ⟨b, o + k * 6 + 2, none⟩) | 5 => v = .string x.1.nm | 6 => v = .tuple #[frV l ac x.1.nm, .bool (frB l x.1.nm)] | 7 => v = .tuple #[frV l ac x.1.nm, .bool (frB l x.1.nm)] | 8 => v = frV l ac x.1.nm | 9 => v = .bool (frB l x.1.nm) | _ => True) (FgJ wr 77 13 10 11 #[.int .i64 0, .string ⟨#[]⟩, .string ⟨#[]⟩, .slice none 0 0] #[.int .i64 (frD l x.1.nm).k, .string (frD l x.1.nm).nm, .string (frD l x.1.nm).on, .slice (frAd l ac x.1.nm).1 (frS l x.1.nm).len (frAd l ac x.1.nm).2]) FgJ.start ?step ?last
        case step =>
          intro D u W i hi hLs hLi hj hdep
          have hbW : Below wr.heap.size wr W := hj.below
          have y0 := fun o => row_cell ((hbW.block _ hzw).trans HDC.out) o
          have y2 := (hbW.cell (p := ⟨b, o + k * 6 + 2, none⟩) hbl).trans d2
          have hcase : i = 0 ∨ i = 1 ∨ i = 2 ∨ i = 3 ∨ i = 4 ∨ i = 5 ∨ i = 6 ∨ i = 7 ∨ i = 8 ∨ i = 9 ∨ i = 10 ∨ i = 11 := by omega
          rcases hcase with rfl | rfl | rfl | rfl | rfl | rfl | rfl | rfl | rfl | rfl | rfl | rfl
          · have HJ : Hid _ := hj
            refine wpOp_step rfl (fun K hK => ?_)
            clear hdep hj
            go_simp
            exact hK _ _ ⟨.agg #[.slice a l.length c], by simp [G.upd], fun _ _ h => h, rfl, HJ.out.step (by decide) (by decide) (by decide) (Below.refl _ _)⟩
          · have HJ : Hid _ := hj
            refine wpOp_step rfl (fun K hK => ?_)
            clear hdep hj
            go_simp
            exact hK _ _ ⟨.slice (some ⟨b, o, none⟩) s.length c1, by simp [G.upd], fun _ _ h => h, rfl, HJ.out.step (by decide) (by decide) (by decide) (Below.refl _ _)⟩
          · have HJ : Hid _ := hj
            refine wpOp_step rfl (fun K hK => ?_)
            clear hdep hj
            go_simp
            exact hK _ _ ⟨.int .i64 k, by simp [G.upd], fun _ _ h => h, rfl, HJ.out.step (by decide) (by decide) (by decide) (Below.refl _ _)⟩
          · have d1 : u 62 = .slice (some ⟨b, o, none⟩) s.length c1 := (hdep _ rfl ⟨1, .data⟩ (by simp) rfl).2
            have d2 : u 63 = .int .i64 k := (hdep _ rfl ⟨2, .data⟩ (by simp) rfl).2
            have HJ : Hid _ := hj
            refine wpOp_step rfl (fun K hK => ?_)
            clear hdep hj
            go_simp
            exact hK _ _ ⟨.pointer (some ⟨b, o + k * 6, none⟩), by simp [G.upd, d1, d2], fun _ _ h => h, rfl, HJ.out.step (by decide) (by decide) (by decide) (Below.refl _ _)⟩
          · have d3 : u 64 = .pointer (some ⟨b, o + k * 6, none⟩) := (hdep _ rfl ⟨3, .data⟩ (by simp) rfl).2
            have HJ : Hid _ := hj
            refine wpOp_step rfl (fun K hK => ?_)
            clear hdep hj
            go_simp
            exact hK _ _ ⟨.pointer (some ⟨b, o + k * 6 + 2, none⟩), by simp [G.upd, d3], fun _ _ h => h, rfl, HJ.out.step (by decide) (by decide) (by decide) (Below.refl _ _)⟩
          · have d4 : u 65 = .pointer (some ⟨b, o + k * 6 + 2, none⟩) := (hdep _ rfl ⟨4, .data⟩ (by simp) rfl).2
            have HJ : Hid _ := hj
            refine wpOp_step rfl (fun K hK => ?_)
            clear hdep hj
            go_simp
            exact hK _ _ ⟨.string x.1.nm, by simp [G.upd, d4], fun _ _ h => h, rfl, HJ.out.step (by decide) (by decide) (by decide) (Below.refl _ _)⟩
          · have d0 : u 61 = .agg #[.slice a l.length c] := (hdep _ rfl ⟨0, .data⟩ (by simp) rfl).2
            have d5 : u 66 = .string x.1.nm := (hdep _ rfl ⟨5, .data⟩ (by simp) rfl).2
            have HJ : Hid _ := hj
            have HQ : Hid _ := spec_frag w0 a c l ac x.1.nm W HC.out hll (HW0.out.trans (hbW.mono HW0.out.size))
            refine wpOp_step rfl (fun K hK => ?_)
            clear hdep hj
            go_simp
            refine Calls.mono HQ.out ?_
            rintro e w8 ⟨rfl, hb8⟩
            exact hK _ _ ⟨.tuple #[frV l ac x.1.nm, .bool (frB l x.1.nm)], by simp [G.upd, d0, d5], fun _ _ h => h, rfl, HJ.out.step (by decide) (by decide) (by decide) hb8⟩
          · have d6 : u 67 = .tuple #[frV l ac x.1.nm, .bool (frB l x.1.nm)] := (hdep _ rfl ⟨6, .data⟩ (by simp) rfl).2
            have HJ : Hid _ := hj
            refine wpOp_step rfl (fun K hK => ?_)
            clear hdep hj
            go_simp
            exact hK _ _ ⟨.tuple #[frV l ac x.1.nm, .bool (frB l x.1.nm)], by simp [G.upd, d6], fun _ _ h => h, rfl, HJ.out.step (by decide) (by decide) (by decide) (Below.refl _ _)⟩
          · have d7 : u 60 = .tuple #[frV l ac x.1.nm, .bool (frB l x.1.nm)] := (hdep _ rfl ⟨7, .data⟩ (by simp) rfl).2
            have HJ : Hid _ := hj
            refine wpOp_step rfl (fun K hK => ?_)
            clear hdep hj
            go_simp
            exact hK _ _ ⟨frV l ac x.1.nm, by simp [G.upd, d7], fun _ _ h => h, rfl, HJ.out.step (by decide) (by decide) (by decide) (Below.refl _ _)⟩
          · have d7 : u 60 = .tuple #[frV l ac x.1.nm, .bool (frB l x.1.nm)] := (hdep _ rfl ⟨7, .data⟩ (by simp) rfl).2
            have HJ : Hid _ := hj
            refine wpOp_step rfl (fun K hK => ?_)
            clear hdep hj
            go_simp
            exact hK _ _ ⟨.bool (frB l x.1.nm), by simp [G.upd, d7], fun _ _ h => h, rfl, HJ.out.step (by decide) (by decide) (by decide) (Below.refl _ _)⟩
          · have HJ : Hid _ := hj
            have HL : Hid _ := hLi
            refine wpOp_step rfl (fun K hK => ?_)
            clear hdep hj
            go_simp
            exact hK _ _ ⟨_, rfl, fun _ _ h => h, trivial, FgJ.made HJ.out (by decide) (by omega) HL.out⟩
          · have lA := (hdep _ rfl ⟨10, .data⟩ (by simp) rfl).1
            have dV : u 68 = frV l ac x.1.nm := (hdep _ rfl ⟨8, .data⟩ (by simp) rfl).2
            obtain ⟨y, q1, q2, q3, q4, _⟩ := hj.at_ lA
            have cy := q4 (gD_no (by omega) hLi)
            have x6 := fun o => row_cell cy o
            have y6 := fun o => row_frozen cy o
            have HJ2 : Hid (∀ val, FgJ wr 77 13 10 11 #[.int .i64 0, .string ⟨#[]⟩, .string ⟨#[]⟩, .slice none 0 0] #[.int .i64 (frD l x.1.nm).k, .string (frD l x.1.nm).nm, .string (frD l x.1.nm).on, .slice (frAd l ac x.1.nm).1 (frS l x.1.nm).len (frAd l ac x.1.nm).2] (D.setIfInBounds 11 true) (G.upd u 99 val) ((((W.setCell ⟨y, 0, none⟩ (.int .i64 (frD l x.1.nm).k)).setCell ⟨y, 1, none⟩ (.string (frD l x.1.nm).nm)).setCell ⟨y, 2, none⟩ (.string (frD l x.1.nm).on)).setCell ⟨y, 3, none⟩ (.slice (frAd l ac x.1.nm).1 (frS l x.1.nm).len (frAd l ac x.1.nm).2))) := fun val => FgJ.stored hj (by decide) (by decide) lA (by omega) q1 (fun g hg => by rw [heap_setV _ _ _ _ _ hg, heap_setV _ _ _ _ _ hg, heap_setV _ _ _ _ _ hg, heap_setV _ _ _ _ _ hg]) (by simp) ((((hbW.setCell q2 _).setCell q2 _).setCell q2 _).setCell q2 _) (four_setV cy)
            unfold frV at dV
            refine wpOp_step rfl (fun K hK => ?_)
            clear hdep cy q4 hj
            go_simp
            exact hK _ _ ⟨undef, by simp [G.upd, q1, dV], fun _ _ h => h, trivial, HJ2.out _⟩
        case last =>
          intro D u W hLs hD hj hp
          obtain ⟨y, q1, q2, q3, _, q5⟩ := hj.at_ (hD 10 (by omega))
          have Q5 : Hid _ := q5 (hD 11 (by omega))
          have QB : Hid (Below wr.heap.size wr W) := hj.below
          have d9 : u 69 = .bool (frB l x.1.nm) := hp 9 (by omega)
          have y5 := fun o => row_cell Q5.out o
          clear hp hj q5
          unfold G.wpTail
          refine wpOp_step rfl (fun K hK => ?_)
          go_simp
          refine hK _ _ ?_
          clear hK
          unfold G.wpTail
          go_wp2_with fail
          go_meet
          exact ⟨_, _, by rw [HIN.out], by rw [HIN.out]; exact frag_row HC.out _, QB⟩
      | false =>
        have HIN : Hid (inS l x = x.2) := by unfold Hid inS; rw [if_neg (by rw [hk2]; decide)]
        go_wp2_with fail
        go_meet
        exact ⟨b3, e3, by rw [HIN.out], by rw [HIN.out]; exact HR3, Below.refl _ _⟩
    obtain ⟨bx, cx, rfl, HRX, HBX⟩ := hcut
    obtain ⟨wz, rfl⟩ : ∃ z, z = wc := ⟨_, rfl⟩
    have BWZ : Hid (Below WV.heap.size WV wz) := HBW.out.trans (HBX.out.mono HBW.out.size)
    have TZ : Hid _ := T.out _ BWZ.out
    obtain ⟨dq, hdq, HDQ⟩ : ∃ dq : Nat, dq ≤ 12 ∧ Hid (dq = d + if (x.1.k == 1) = true then 1 else 0) := ⟨_, by split <;> omega, rfl⟩
    have HDD : Hid (dd = (12 : Int) - dq) := by
      have h1 := HBN.out
      have h2 := hdn.out
      unfold bitN at h1
      rw [Hid, hdd.out, h2, HDQ.out, ← h1]
      split <;> simp <;> omega
    have hxlb := LB.inS HDB.out (x := x) HXB.out.2
    have HCALL := IH.out (m + 1) (by omega) (by omega) (toL (inS l x)) bx cx dq wz hdq (SelRow.fr2 HRX.out TZ.out.2.2.1) TZ.out.2.2.1 hxlb.1
    rw [toL_len, ← HDD.out, show (400 : Int) - ((m + 1 : Nat) : Int) = 400 - m - 1 by omega] at HCALL
    have HCL : Hid _ := HCALL
    rw [← HDQ.out] at HSUB HNXT
    have x9 := fun o => row_cell TZ.out.1 o
    clear HCALL hxlb x0 d0 d1 d2 d3 d4 d5
    go_wp2_with fail
    refine Calls.mono HCL.out ?_
    rintro e w9 ⟨⟨y, q, hL, rfl⟩, b9⟩
    have BW9 : Hid (Below WV.heap.size WV w9) := BWZ.out.trans (b9.mono BWZ.out.size)
    have G9 : Hid (Below w.heap.size w w9) := (T.out _ BW9.out).2.2.2
    have HLM : Hid (Lim l (toL (inS l x)) dq (m + 1) y q) := hL
    have hup := hL.up
    have htop := hL.top (by omega)
    have hq1 : q ≤ 401 := htop.1
    have HTP : Hid _ := htop
    have hcod := hL.codes
    clear b9 hL x9 HCL htop
    rcases hcod with rfl | rfl | rfl
    · have HT2 : Hid (LimTo l s d n (k + 1) q) := .inl ⟨HTP.out.2.1 rfl, HNXT.out q HLM.out⟩
      go_wp2_with fail
      exact ⟨⟨k + 1, q, rfl, by go_num, by omega, by omega, hq1, BW9, HT2⟩, by simp [intOf]; omega⟩
    · have hq : q = 401 := HTP.out.2.2 rfl
      subst hq
      have HT2 : Hid (LimTo l s d n (k + 1) 401) := .inr ⟨rfl, HSUB.out 6 401 HLM.out (by decide)⟩
      go_wp2_with fail
      exact ⟨⟨k + 1, 401, rfl, by go_num, by omega, by omega, by omega, BW9, HT2⟩, by simp [intOf]; omega⟩
    · have HE : Hid (Lim l s d n 8 q) := HSUB.out 8 q HLM.out (by decide)
      go_wp2_with fail
      go_ret2
      exact ⟨⟨8, q, HE.out, rfl⟩, G9.out⟩
end Go.Proofs.YthbjihbpjajggaaGreat
namespace Go.Proofs.YthbjihbpjajggaaGreat.G
open Go.ChangeShapes Go.WideShapes Go.ChangeAt Go.RowKit
set_option linter.unusedVariables false

theorem list2 {α : Type} {l : List α} (h : l.length = 2) : ∃ v0 v1, l = [v0, v1] := by
  match l, h with
  | [v0, v1], _ => exact ⟨v0, v1, rfl⟩
def put2 (cs : Array Value) (k : Nat) (v0 v1 : Value) : Array Value := ((cs.setIfInBounds k v0).setIfInBounds (k + 1) v1)
theorem put2_size (cs : Array Value) (k : Nat) (v0 v1 : Value) : (put2 cs k v0 v1).size = cs.size := by simp [put2]
theorem put2_at {cs : Array Value} {k : Nat} {v0 v1 : Value} (h : k + 1 < cs.size) : (put2 cs k v0 v1)[k]? = some v0 ∧ (put2 cs k v0 v1)[k + 1]? = some v1 := by
  unfold put2
  refine ⟨?_, ?_⟩ <;> simp [Array.getElem?_setIfInBounds] <;> omega
theorem put2_else {cs : Array Value} {k : Nat} {v0 v1 : Value} {j : Nat} (h : j < k) : (put2 cs k v0 v1)[j]? = cs[j]? := by
  unfold put2
  rw [Array.getElem?_setIfInBounds_ne (by omega), Array.getElem?_setIfInBounds_ne (by omega)]
theorem list5 {α : Type} {l : List α} (h : l.length = 5) : ∃ v0 v1 v2 v3 v4, l = [v0, v1, v2, v3, v4] := by
  match l, h with
  | [v0, v1, v2, v3, v4], _ => exact ⟨v0, v1, v2, v3, v4, rfl⟩
def put5 (cs : Array Value) (k : Nat) (v0 v1 v2 v3 v4 : Value) : Array Value := (((((cs.setIfInBounds k v0).setIfInBounds (k + 1) v1).setIfInBounds (k + 2) v2).setIfInBounds (k + 3) v3).setIfInBounds (k + 4) v4)
theorem put5_size (cs : Array Value) (k : Nat) (v0 v1 v2 v3 v4 : Value) : (put5 cs k v0 v1 v2 v3 v4).size = cs.size := by simp [put5]
theorem put5_at {cs : Array Value} {k : Nat} {v0 v1 v2 v3 v4 : Value} (h : k + 4 < cs.size) : (put5 cs k v0 v1 v2 v3 v4)[k]? = some v0 ∧ (put5 cs k v0 v1 v2 v3 v4)[k + 1]? = some v1 ∧ (put5 cs k v0 v1 v2 v3 v4)[k + 2]? = some v2 ∧ (put5 cs k v0 v1 v2 v3 v4)[k + 3]? = some v3 ∧ (put5 cs k v0 v1 v2 v3 v4)[k + 4]? = some v4 := by
  unfold put5
  refine ⟨?_, ?_, ?_, ?_, ?_⟩ <;> simp [Array.getElem?_setIfInBounds] <;> omega
theorem put5_else {cs : Array Value} {k : Nat} {v0 v1 v2 v3 v4 : Value} {j : Nat} (h : j < k) : (put5 cs k v0 v1 v2 v3 v4)[j]? = cs[j]? := by
  unfold put5
  rw [Array.getElem?_setIfInBounds_ne (by omega), Array.getElem?_setIfInBounds_ne (by omega), Array.getElem?_setIfInBounds_ne (by omega), Array.getElem?_setIfInBounds_ne (by omega), Array.getElem?_setIfInBounds_ne (by omega)]
structure Ag where
  nm : ByteArray
  need : Bool
def AgAt (lo hi : Nat) (w : World) (rd : Nat → Option Value) (o : Nat) (x : Ag) : Prop := rd o = some (.string x.nm) ∧ rd (o + 1) = some (.bool x.need)
abbrev AgRow (lo hi : Nat) (w : World) (a : Option Addr) (l : List Ag) : Prop := Row (AgAt lo hi w) 2 lo hi w a l
def AgBd (m : Nat) (x : Ag) : Prop := x.nm.size ≤ m
def AgsBd (m : Nat) (l : List Ag) : Prop := l.length ≤ m ∧ ∀ x ∈ l, AgBd m x
theorem AgAt.keep {lo hi : Nat} {w w' : World} {rd : Nat → Option Value} {o : Nat} {x : Ag} (hh : AgAt lo hi w rd o x) (hk : Agree lo hi w w') : AgAt lo hi w' rd o x := hh
theorem AgAt.wide {lo hi lo' hi' : Nat} {w : World} {rd : Nat → Option Value} {o : Nat} {x : Ag} (hh : AgAt lo hi w rd o x) (e1 : lo' ≤ lo) (e2 : hi ≤ hi') : AgAt lo' hi' w rd o x := hh
theorem AgRow.keep {lo hi : Nat} {w w' : World} {a : Option Addr} {l : List Ag} (h : AgRow lo hi w a l) (hk : Agree lo hi w w') : AgRow lo hi w' a l := Row.of h hk fun _ _ _ hx => AgAt.keep hx hk
theorem AgRow.wide {lo hi lo' hi' : Nat} {w : World} {a : Option Addr} {l : List Ag} (h : AgRow lo hi w a l) (e1 : lo' ≤ lo) (e2 : hi ≤ hi') : AgRow lo' hi' w a l := Row.out h e1 e2 fun _ _ _ hx => AgAt.wide hx e1 e2
theorem AgRow.up {w w' : World} {a : Option Addr} {l : List Ag} (h : AgRow 0 w.heap.size w a l) (hb : Below w.heap.size w w') : AgRow 0 w'.heap.size w' a l := AgRow.wide (AgRow.keep h (agree hb (Nat.le_refl _))) (Nat.le_refl _) hb.size
theorem AgRow.cells {lo hi : Nat} {w : World} {a : Option Addr} {l : List Ag} (h : AgRow lo hi w a l) (k : Nat) (hk : k < l.length) :
    ∃ b o, a = some ⟨b, o, none⟩ ∧ lo ≤ b ∧ b < hi ∧ w.cell? ⟨b, o + k * 2, none⟩ = some (.string l[k].nm) ∧ w.cell? ⟨b, o + k * 2 + 1, none⟩ = some (.bool l[k].need) := by
  obtain ⟨b, o, e1, e2, e3, h0, h1⟩ := Row.at_ h k hk
  exact ⟨b, o, e1, e2, e3, h0, h1⟩
structure Fd where
  nm : ByteArray
  args : List Ag
  ty : ByteArray
  ls : Bool
  bg : Bool
def FdAt (lo hi : Nat) (w : World) (rd : Nat → Option Value) (o : Nat) (x : Fd) : Prop := rd o = some (.string x.nm) ∧ (∃ a c, rd (o + 1) = some (.slice a x.args.length c) ∧ Row (AgAt lo hi w) 2 lo hi w a x.args) ∧ rd (o + 2) = some (.string x.ty) ∧ rd (o + 3) = some (.bool x.ls) ∧ rd (o + 4) = some (.bool x.bg)
abbrev FdRow (lo hi : Nat) (w : World) (a : Option Addr) (l : List Fd) : Prop := Row (FdAt lo hi w) 5 lo hi w a l
def FdBd (m : Nat) (x : Fd) : Prop := x.nm.size ≤ m ∧ AgsBd m x.args ∧ x.ty.size ≤ m
def FdsBd (m : Nat) (l : List Fd) : Prop := l.length ≤ m ∧ ∀ x ∈ l, FdBd m x
theorem FdAt.keep {lo hi : Nat} {w w' : World} {rd : Nat → Option Value} {o : Nat} {x : Fd} (hh : FdAt lo hi w rd o x) (hk : Agree lo hi w w') : FdAt lo hi w' rd o x := by
  obtain ⟨h0, ⟨a, c, p, q⟩, h2, h3, h4⟩ := hh
  exact ⟨h0, ⟨a, c, p, AgRow.keep q hk⟩, h2, h3, h4⟩
theorem FdAt.wide {lo hi lo' hi' : Nat} {w : World} {rd : Nat → Option Value} {o : Nat} {x : Fd} (hh : FdAt lo hi w rd o x) (e1 : lo' ≤ lo) (e2 : hi ≤ hi') : FdAt lo' hi' w rd o x := by
  obtain ⟨h0, ⟨a, c, p, q⟩, h2, h3, h4⟩ := hh
  exact ⟨h0, ⟨a, c, p, AgRow.wide q e1 e2⟩, h2, h3, h4⟩
theorem FdRow.keep {lo hi : Nat} {w w' : World} {a : Option Addr} {l : List Fd} (h : FdRow lo hi w a l) (hk : Agree lo hi w w') : FdRow lo hi w' a l := Row.of h hk fun _ _ _ hx => FdAt.keep hx hk
theorem FdRow.wide {lo hi lo' hi' : Nat} {w : World} {a : Option Addr} {l : List Fd} (h : FdRow lo hi w a l) (e1 : lo' ≤ lo) (e2 : hi ≤ hi') : FdRow lo' hi' w a l := Row.out h e1 e2 fun _ _ _ hx => FdAt.wide hx e1 e2
theorem FdRow.up {w w' : World} {a : Option Addr} {l : List Fd} (h : FdRow 0 w.heap.size w a l) (hb : Below w.heap.size w w') : FdRow 0 w'.heap.size w' a l := FdRow.wide (FdRow.keep h (agree hb (Nat.le_refl _))) (Nat.le_refl _) hb.size
theorem FdRow.cells {lo hi : Nat} {w : World} {a : Option Addr} {l : List Fd} (h : FdRow lo hi w a l) (k : Nat) (hk : k < l.length) :
    ∃ b o a3 c3, a = some ⟨b, o, none⟩ ∧ lo ≤ b ∧ b < hi ∧ w.cell? ⟨b, o + k * 5, none⟩ = some (.string l[k].nm) ∧ w.cell? ⟨b, o + k * 5 + 1, none⟩ = some (.slice a3 l[k].args.length c3) ∧ w.cell? ⟨b, o + k * 5 + 2, none⟩ = some (.string l[k].ty) ∧ w.cell? ⟨b, o + k * 5 + 3, none⟩ = some (.bool l[k].ls) ∧ w.cell? ⟨b, o + k * 5 + 4, none⟩ = some (.bool l[k].bg) ∧ AgRow lo hi w a3 l[k].args := by
  obtain ⟨b, o, e1, e2, e3, h0, ⟨a3, c3, p, q⟩, h2, h3, h4⟩ := Row.at_ h k hk
  exact ⟨b, o, a3, c3, e1, e2, e3, h0, p, h2, h3, h4, q⟩
structure Td where
  nm : ByteArray
  fs : List Fd
def TdAt (lo hi : Nat) (w : World) (rd : Nat → Option Value) (o : Nat) (x : Td) : Prop := rd o = some (.string x.nm) ∧ (∃ a c, rd (o + 1) = some (.slice a x.fs.length c) ∧ Row (FdAt lo hi w) 5 lo hi w a x.fs)
abbrev TdRow (lo hi : Nat) (w : World) (a : Option Addr) (l : List Td) : Prop := Row (TdAt lo hi w) 2 lo hi w a l
def TdBd (m : Nat) (x : Td) : Prop := x.nm.size ≤ m ∧ FdsBd m x.fs
def TdsBd (m : Nat) (l : List Td) : Prop := l.length ≤ m ∧ ∀ x ∈ l, TdBd m x
theorem TdAt.keep {lo hi : Nat} {w w' : World} {rd : Nat → Option Value} {o : Nat} {x : Td} (hh : TdAt lo hi w rd o x) (hk : Agree lo hi w w') : TdAt lo hi w' rd o x := by
  obtain ⟨h0, ⟨a, c, p, q⟩⟩ := hh
  exact ⟨h0, ⟨a, c, p, FdRow.keep q hk⟩⟩
theorem TdAt.wide {lo hi lo' hi' : Nat} {w : World} {rd : Nat → Option Value} {o : Nat} {x : Td} (hh : TdAt lo hi w rd o x) (e1 : lo' ≤ lo) (e2 : hi ≤ hi') : TdAt lo' hi' w rd o x := by
  obtain ⟨h0, ⟨a, c, p, q⟩⟩ := hh
  exact ⟨h0, ⟨a, c, p, FdRow.wide q e1 e2⟩⟩
theorem TdRow.keep {lo hi : Nat} {w w' : World} {a : Option Addr} {l : List Td} (h : TdRow lo hi w a l) (hk : Agree lo hi w w') : TdRow lo hi w' a l := Row.of h hk fun _ _ _ hx => TdAt.keep hx hk
theorem TdRow.wide {lo hi lo' hi' : Nat} {w : World} {a : Option Addr} {l : List Td} (h : TdRow lo hi w a l) (e1 : lo' ≤ lo) (e2 : hi ≤ hi') : TdRow lo' hi' w a l := Row.out h e1 e2 fun _ _ _ hx => TdAt.wide hx e1 e2
theorem TdRow.up {w w' : World} {a : Option Addr} {l : List Td} (h : TdRow 0 w.heap.size w a l) (hb : Below w.heap.size w w') : TdRow 0 w'.heap.size w' a l := TdRow.wide (TdRow.keep h (agree hb (Nat.le_refl _))) (Nat.le_refl _) hb.size
theorem TdRow.cells {lo hi : Nat} {w : World} {a : Option Addr} {l : List Td} (h : TdRow lo hi w a l) (k : Nat) (hk : k < l.length) :
    ∃ b o a3 c3, a = some ⟨b, o, none⟩ ∧ lo ≤ b ∧ b < hi ∧ w.cell? ⟨b, o + k * 2, none⟩ = some (.string l[k].nm) ∧ w.cell? ⟨b, o + k * 2 + 1, none⟩ = some (.slice a3 l[k].fs.length c3) ∧ FdRow lo hi w a3 l[k].fs := by
  obtain ⟨b, o, e1, e2, e3, h0, ⟨a3, c3, p, q⟩⟩ := Row.at_ h k hk
  exact ⟨b, o, a3, c3, e1, e2, e3, h0, p, q⟩
section
variable {H : Type} {enc : TypeId × Value → H} {W : World}
theorem Ags_open {fuel : Nat} {cs : List Value} {x : DataW H × List MemPlace} (h : DataW.trod enc Tryz.prog W 0 (fun _ => true) true fuel 153 cs = some x) :
    ∃ a c, ∃ l : List Ag, cs = [.slice a l.length c] ∧ AgsBd maxLen l ∧ AgRow 0 W.heap.size W a l := by
  have cst : Tryz.prog.cellsOf 9 = 1 := by kernel_rfl
  have cb : Tryz.prog.cellsOf 4 = 1 := by kernel_rfl
  obtain ⟨a, len, cap, rfl, hm, hr⟩ := sl_open Tryz.underlying153 (z := 2) (by kernel_rfl) (by omega) h
  rcases hr with rfl | ⟨n, b, o, rfl, rfl, hb, hx⟩
  · exact ⟨a, cap, [], rfl, ⟨Nat.zero_le _, by simp⟩, .inl rfl⟩
  · obtain ⟨l, hl, hp⟩ := list_of (p := fun i x => AgAt 0 W.heap.size W (rdOf W b) (o + i * 2) x ∧ AgBd maxLen x) (fun i hi => by
      obtain ⟨cs', y, hcl, hc, hd⟩ := hx i hi
      obtain ⟨xs, n', rfl, rfl, _, hxl, hf⟩ := DataW.trod_struct Tryz.underlying203 hd
      obtain ⟨v0, v1, rfl⟩ := list2 hcl
      obtain ⟨y0, y1, rfl⟩ := list2 hxl
      obtain ⟨g0, e0, _, b0⟩ := DataW.trod_string Tryz.underlying9 (hf 0 _ rfl)
      obtain ⟨g1, e1, _⟩ := DataW.trod_bool Tryz.underlying4 (hf 1 _ rfl)
      simp [cst, cb] at e0 e1
      subst e0 e1
      exact ⟨⟨g0, g1⟩, ⟨hc 0 (by omega), hc 1 (by omega)⟩, b0⟩)
    subst hl
    refine ⟨_, cap, l, rfl, ⟨hm, fun x hx => ?_⟩, .inr ⟨b, o, rfl, Nat.zero_le _, hb, fun i x hx => (hp i x hx).1⟩⟩
    obtain ⟨i, hi, rfl⟩ := List.getElem_of_mem hx
    exact (hp i _ (List.getElem?_eq_getElem hi)).2
theorem Fds_open {fuel : Nat} {cs : List Value} {x : DataW H × List MemPlace} (h : DataW.trod enc Tryz.prog W 0 (fun _ => true) true fuel 55 cs = some x) :
    ∃ a c, ∃ l : List Fd, cs = [.slice a l.length c] ∧ FdsBd maxLen l ∧ FdRow 0 W.heap.size W a l := by
  have cst : Tryz.prog.cellsOf 9 = 1 := by kernel_rfl
  have cb : Tryz.prog.cellsOf 4 = 1 := by kernel_rfl
  have cs3 : Tryz.prog.cellsOf 153 = 1 := by kernel_rfl
  obtain ⟨a, len, cap, rfl, hm, hr⟩ := sl_open Tryz.underlying55 (z := 5) (by kernel_rfl) (by omega) h
  rcases hr with rfl | ⟨n, b, o, rfl, rfl, hb, hx⟩
  · exact ⟨a, cap, [], rfl, ⟨Nat.zero_le _, by simp⟩, .inl rfl⟩
  · obtain ⟨l, hl, hp⟩ := list_of (p := fun i x => FdAt 0 W.heap.size W (rdOf W b) (o + i * 5) x ∧ FdBd maxLen x) (fun i hi => by
      obtain ⟨cs', y, hcl, hc, hd⟩ := hx i hi
      obtain ⟨xs, n', rfl, rfl, _, hxl, hf⟩ := DataW.trod_struct Tryz.underlying155 hd
      obtain ⟨v0, v1, v2, v3, v4, rfl⟩ := list5 hcl
      obtain ⟨y0, y1, y2, y3, y4, rfl⟩ := list5 hxl
      obtain ⟨g0, e0, _, b0⟩ := DataW.trod_string Tryz.underlying9 (hf 0 _ rfl)
      obtain ⟨a5, c5, g1, e1, b1, r5⟩ := Ags_open (hf 1 _ rfl)
      obtain ⟨g2, e2, _, b2⟩ := DataW.trod_string Tryz.underlying9 (hf 2 _ rfl)
      obtain ⟨g3, e3, _⟩ := DataW.trod_bool Tryz.underlying4 (hf 3 _ rfl)
      obtain ⟨g4, e4, _⟩ := DataW.trod_bool Tryz.underlying4 (hf 4 _ rfl)
      simp [cst, cb, cs3] at e0 e1 e2 e3 e4
      subst e0 e1 e2 e3 e4
      exact ⟨⟨g0, g1, g2, g3, g4⟩, ⟨hc 0 (by omega), ⟨a5, c5, hc 1 (by omega), r5⟩, hc 2 (by omega), hc 3 (by omega), hc 4 (by omega)⟩, b0, b1, b2⟩)
    subst hl
    refine ⟨_, cap, l, rfl, ⟨hm, fun x hx => ?_⟩, .inr ⟨b, o, rfl, Nat.zero_le _, hb, fun i x hx => (hp i x hx).1⟩⟩
    obtain ⟨i, hi, rfl⟩ := List.getElem_of_mem hx
    exact (hp i _ (List.getElem?_eq_getElem hi)).2
theorem Tds_open {fuel : Nat} {cs : List Value} {x : DataW H × List MemPlace} (h : DataW.trod enc Tryz.prog W 0 (fun _ => true) true fuel 22 cs = some x) :
    ∃ a c, ∃ l : List Td, cs = [.slice a l.length c] ∧ TdsBd maxLen l ∧ TdRow 0 W.heap.size W a l := by
  have cst : Tryz.prog.cellsOf 9 = 1 := by kernel_rfl
  have cs3 : Tryz.prog.cellsOf 55 = 1 := by kernel_rfl
  obtain ⟨a, len, cap, rfl, hm, hr⟩ := sl_open Tryz.underlying22 (z := 2) (by kernel_rfl) (by omega) h
  rcases hr with rfl | ⟨n, b, o, rfl, rfl, hb, hx⟩
  · exact ⟨a, cap, [], rfl, ⟨Nat.zero_le _, by simp⟩, .inl rfl⟩
  · obtain ⟨l, hl, hp⟩ := list_of (p := fun i x => TdAt 0 W.heap.size W (rdOf W b) (o + i * 2) x ∧ TdBd maxLen x) (fun i hi => by
      obtain ⟨cs', y, hcl, hc, hd⟩ := hx i hi
      obtain ⟨xs, n', rfl, rfl, _, hxl, hf⟩ := DataW.trod_struct Tryz.underlying57 hd
      obtain ⟨v0, v1, rfl⟩ := list2 hcl
      obtain ⟨y0, y1, rfl⟩ := list2 hxl
      obtain ⟨g0, e0, _, b0⟩ := DataW.trod_string Tryz.underlying9 (hf 0 _ rfl)
      obtain ⟨a5, c5, g1, e1, b1, r5⟩ := Fds_open (hf 1 _ rfl)
      simp [cst, cs3] at e0 e1
      subst e0 e1
      exact ⟨⟨g0, g1⟩, ⟨hc 0 (by omega), ⟨a5, c5, hc 1 (by omega), r5⟩⟩, b0, b1⟩)
    subst hl
    refine ⟨_, cap, l, rfl, ⟨hm, fun x hx => ?_⟩, .inr ⟨b, o, rfl, Nat.zero_le _, hb, fun i x hx => (hp i x hx).1⟩⟩
    obtain ⟨i, hi, rfl⟩ := List.getElem_of_mem hx
    exact (hp i _ (List.getElem?_eq_getElem hi)).2
end
end Go.Proofs.YthbjihbpjajggaaGreat.G
namespace Go.Proofs.YthbjihbpjajggaaGreat.G
open Go.ChangeShapes Go.WideShapes Go.ChangeAt Go.RowKit
set_option linter.unusedVariables false

theorem spec_nameOK (s : ByteArray) (w : World) (hs : s.size ≤ maxLen) :
    Calls Tryz.prog 34 #[.string s] w fun e w' => e = .returned (.bool (nameB s)) ∧ w' = w := by
  go_enter Tryz.func34, Tryz.ntmps34
  go_wp2_with fail
  refine (word_any s _ hs).mono ?_
  rintro e w1 ⟨rfl, rfl⟩
  go_wp2_with fail
  go_ret
  exact ⟨rfl, rfl⟩
theorem impl_nameOK (s : ByteArray) (w : World) (hs : s.size ≤ maxLen) :
    Calls Tryz.prog 73 #[.string s] w fun e w' => e = .returned (.bool (nameB s)) ∧ Below w.heap.size w w' := by
  refine (nameOK_any s w hs).mono ?_
  rintro e w1 ⟨rfl, hw⟩
  refine ⟨rfl, ?_⟩
  rcases hw with rfl | ⟨pos, rfl⟩
  · exact Below.refl _ _
  · exact (Below.refl _ _).alloc (Nat.le_refl _) _

def inB (n a b : Int) : Bool := decide (a ≤ n ∧ n ≤ b)
set_option maxHeartbeats 400000 in
theorem spec_in (n a b : Int) (w : World) : Calls Tryz.prog 32 #[.int .i64 n, .int .i64 a, .int .i64 b] w fun e w' => e = .returned (.bool (inB n a b)) ∧ w' = w := by
  go_enter Tryz.func32, Tryz.ntmps32
  go_wp2
  all_goals (go_ret; exact ⟨ret_bool (by unfold inB; rw [Bool.eq_iff_iff]; simp; omega), rfl⟩)
end Go.Proofs.YthbjihbpjajggaaGreat.G
