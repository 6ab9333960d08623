/- The draws: a store, the walk. -/
import Derived.Test.YtoahbfledamnnaaStFoJ
namespace Go.Proofs.Ytoahbfledamnnaa.G
open Go.ChangeShapes Go.WideShapes Go.ChangeAt Go.RowKit
set_option linter.unusedVariables false

/-- What the operations of the writing tell. -/
def PuPv (L now : Nat) (a : Option Addr) (n c : Nat) : Nat → Value → World → Prop
  | 0, y, _ => y = .agg #[.slice a n c, .int .i64 now]
  | 1, y, _ => y = .pointer (some ⟨L, 0, none⟩)
  | _, _, _ => True
theorem PuPv.up {L now : Nat} {a : Option Addr} {n c : Nat} {W W' : World} {i : Nat} {y : Value} (h : PuPv L now a n c i y W) : PuPv L now a n c i y W' := by
  unfold PuPv at h ⊢
  split at h <;> exact h
def FoPv (L X now : Nat) (a : Option Addr) (n c : Nat) : Nat → Value → World → Prop
  | 0, y, _ => y = .agg #[.slice a n c, .int .i64 now]
  | 1, y, _ => y = .pointer (some ⟨L, 0, none⟩)
  | 2, y, _ => y = .pointer (some ⟨X, 1, none⟩)
  | 3, y, _ => y = .int .i64 now
  | 4, y, _ => y = .int .i64 ((now + 1 : Nat) : Int)
  | _, _, _ => True
theorem FoPv.up {L X now : Nat} {a : Option Addr} {n c : Nat} {W W' : World} {i : Nat} {y : Value} (h : FoPv L X now a n c i y W) : FoPv L X now a n c i y W' := by
  unfold FoPv at h ⊢
  split at h <;> exact h
theorem fo_dst : ∀ i, i < 12 → ∀ j, j < 12 → [24, 25, 26, 27, 28, 29, 30, 23, 31, 32, 5, 99].getD i 0 = [24, 25, 26, 27, 28, 29, 30, 23, 31, 32, 5, 99].getD j 0 → i = j := by decide
theorem NoCh.right {l : Chs} (h : NoCh l) : storeB l 0 = true := by
  rw [storeB_chains h.1 (by omega)]
  refine chainsB_true fun i hi => ?_
  rw [h.2 _ (List.getElem_mem hi)]
  rfl
/-- Where the drawing of a store stands: the store lies in block X, the source in block L. -/
def StIn (w : World) (L X : Nat) (sa : Option Addr) (n k : Nat) (w' : World) (m : Nat) : Prop :=
  ∃ (l : Chs) (now : Nat) (a' : Option Addr) (c' kk : Nat), m + now ≤ 13 ∧ kk + 15 * m ≤ k + 196 ∧ w'.heap[X]? = some (.cells #[.slice a' l.length c', .int .i64 now] 25 (0, 0)) ∧ Beside (w.heap.size + 1) X w' a' l ∧ storeB l now = true ∧ SrcSt w' L sa n kk ∧ w.grownBy w' (some L) ∧ w'.heap[w.heap.size]? = some (.cells #[.slice none 0 0, .int .i64 0] 25 (0, 0))
/-- The region 'x = l06Write(x, s.puts())': 2 draws the writes, 3 writes. -/
structure PuJ (w0 : World) (L X lo : Nat) (sa : Option Addr) (n kk now : Nat) (D : Array Bool) (u : Nat → Value) (W : World) : Prop where
  grown : w0.grownBy W (some L)
  before : D.getD 2 false = false → SrcSt W L sa n kk
  after_ : D.getD 2 false = true → SrcSt W L sa n (kk + 13) ∧ ∃ (ps : List Ve) (pa : Option Addr) (pc : Nat), u 19 = .slice pa ps.length pc ∧ VeRow 0 W.heap.size W pa ps ∧ ps.length ≤ 4 ∧ ∀ p ∈ ps, putB p.ts p.v = true
  wrote : D.getD 3 false = true → ∃ (l2 : Chs) (a2 : Option Addr) (c2 now2 : Nat), u 20 = .agg #[.slice a2 l2.length c2, .int .i64 now2] ∧ Beside lo X W a2 l2 ∧ storeB l2 now2 = true ∧ now2 ≤ now + 1
theorem PuJ.start {w0 : World} {L X lo : Nat} {sa : Option Addr} {n kk now m : Nat} {u : Nat → Value} (h : SrcSt w0 L sa n kk) : PuJ w0 L X lo sa n kk now (Array.replicate m false) u w0.drew := by
  have no : ∀ j, (Array.replicate m false).getD j false = true → False := fun j hj => by
    by_cases hx : j < m
    · simp [hx] at hj
    · simp [hx] at hj
  exact ⟨grown_below (grown_refl _ _) (Below.refl _ _).drew, fun _ => h, fun h => (no _ h).elim, fun h => (no _ h).elim⟩
theorem PuJ.step {w0 : World} {L X lo : Nat} {sa : Option Addr} {n kk now : Nat} {D : Array Bool} {u : Nat → Value} {W : World} (h : PuJ w0 L X lo sa n kk now D u W) {i d : Nat} {val : Value} (hi : i ≠ 2 ∧ i ≠ 3) (hd : d ≠ 19 ∧ d ≠ 20) : PuJ w0 L X lo sa n kk now (D.setIfInBounds i true) (upd u d val) W := by
  obtain ⟨i1, i2⟩ := hi
  obtain ⟨d1, d2⟩ := hd
  refine ⟨h.grown, fun h1 => ?_, fun h1 => ?_, fun h1 => ?_⟩
  · rw [getD_set_ne false i1] at h1; exact h.before h1
  · rw [getD_set_ne false i1] at h1; rw [upd_ne _ _ (Ne.symm d1)]; exact h.after_ h1
  · rw [getD_set_ne false i2] at h1; rw [upd_ne _ _ (Ne.symm d2)]; exact h.wrote h1
set_option maxHeartbeats 8000000 in
set_option maxRecDepth 40000 in
theorem store_any (L n k : Nat) (a : Option Addr) (w : World) (h : SrcSt w L a n k) (hr : ByteRow L w a n) (hk : k ≤ 90000) (hn : n ≤ 1048576) :
    Calls Try.prog 22 #[.pointer (some ⟨L, 0, none⟩)] w fun e w' => (∃ (l : Chs) (now : Nat) (v : Value), e = .returned (.agg #[v, .int .i64 now]) ∧ OwnK w.heap.size w' v l ∧ storeB l now = true ∧ now ≤ 13) ∧ w.grownBy w' (some L) := by
  obtain ⟨l0, hl0⟩ := noCh
  have hL := h.lt
  obtain ⟨wa, hwa⟩ : ∃ x : World, x = w.alloc (.cells #[.slice none 0 0, .int .i64 0] 25) := ⟨_, rfl⟩
  have za : wa.heap.size = w.heap.size + 1 := by rw [hwa]; simp
  have ba : Below w.heap.size w wa := by rw [hwa]; exact (Below.refl _ _).alloc (Nat.le_refl _) _
  have ca : wa.heap[w.heap.size]? = some (.cells #[.slice none 0 0, .int .i64 0] 25 (0, 0)) := by rw [hwa]; exact heap_alloc_new _ _
  have HS : Hid _ := h.move (ba.block L hL)
  have GA : Hid (w.grownBy wa (some L)) := grown_below (grown_refl _ _) ba
  have CA : Hid _ := ca
  have HR0 : Hid _ := hr
  have HL0 : Hid _ := hl0
  clear h hr ba ca hl0
  go_enter Try.func22, Try.ntmps22
  go_wp2_with fail
  rw [← hwa]
  refine (spec_new l0 HL0.out _).mono ?_
  rintro e w1 ⟨a1, rfl, o1, b1⟩
  have z1 := b1.size
  have HS1 : Hid _ := SrcSt.move HS.out (b1.block L (by omega))
  have G1 : Hid (w.grownBy w1 (some L)) := grown_below GA.out b1
  have C1 : Hid _ := (b1.block w.heap.size (by omega)).trans CA.out
  have O1 : Hid _ := o1
  clear o1 b1 HS GA CA
  obtain ⟨w2, hw2⟩ : ∃ x : World, x = w1.alloc (.cells #[.slice a1 l0.length 16, .int .i64 0] 25) := ⟨_, rfl⟩
  have z2 : w2.heap.size = w1.heap.size + 1 := by rw [hw2]; simp
  have b2 : Below w1.heap.size w1 w2 := by rw [hw2]; exact (Below.refl _ _).alloc (Nat.le_refl _) _
  have c2 : w2.heap[w1.heap.size]? = some (.cells #[.slice a1 l0.length 16, .int .i64 0] 25 (0, 0)) := by rw [hw2]; exact heap_alloc_new _ _
  have C2 : Hid _ := c2
  have HS2 : Hid _ := SrcSt.move HS1.out (b2.block L (by omega))
  have G2 : Hid (w.grownBy w2 (some L)) := grown_below G1.out b2
  have R2 : Hid _ := (b2.block w.heap.size (by omega)).trans C1.out
  have T2 : Hid (Beside (w.heap.size + 1) w1.heap.size w2 a1 l0) := .inl (ChRow.wide (ChRow.keep (StOwn.row O1.out) (agree b2 (Nat.le_refl _))) (by omega) (Nat.le_refl _))
  clear b2 c2 C1 G1 HS1 O1
  go_wp2_with fail
  rw [← hw2]
  refine (size_any L n k a _ HS2.out hn).mono ?_
  rintro e w3 ⟨⟨v, hv1, hv2, rfl⟩, b3⟩
  have z3 := b3.size
  have C3 : Hid _ := (b3.block w1.heap.size (by omega)).trans C2.out
  have HS3 : Hid _ := SrcSt.move HS2.out (b3.block L (by omega))
  have G3 : Hid (w.grownBy w3 (some L)) := grown_below G2.out b3
  have R3 : Hid _ := (b3.block w.heap.size (by omega)).trans R2.out
  have T3 : Hid (Beside (w.heap.size + 1) w1.heap.size w3 a1 l0) := Beside.keep T2.out (by omega) (by omega) (by omega) (fun g _ h2 _ => b3.block g h2)
  clear b3 C2 HS2 G2 R2 T2 hw2
  go_wp2_with fail
  rw [show (v : Int) + 4 = ((v + 4 : Nat) : Int) by omega]
  refine (next_any (v + 4) L n k a _ HS3.out (row_keep HR0.out G3.out) (by omega) hn (by omega) (by omega)).mono ?_
  rintro e w4 ⟨⟨q, hq, rfl⟩, s4, g4⟩
  have z4 := g4.size
  have I4 : Hid (StIn w L w1.heap.size a n k w4 q) := ⟨l0, 0, a1, 16, k + 1, by omega, by omega, (g4.block _ (by omega) (by simp; omega)).trans C3.out, Beside.keep T3.out (by omega) (by omega) (by omega) (fun g h1 h2 _ => g4.block g h2 (by simp; omega)), NoCh.right HL0.out, s4, grown_trans G3.out g4, (g4.block _ (by omega) (by simp; omega)).trans R3.out⟩
  obtain ⟨X, hX⟩ : ∃ X, X = w1.heap.size := ⟨_, rfl⟩
  rw [← hX] at I4 ⊢
  have hXR : w.heap.size + 1 ≤ X := by omega
  clear hX s4 g4 C3 HS3 G3 R3 T3 HL0
  go_wp2_with fail
  go_loopw [4] (fun i w' => ∃ (m : Nat), i = .int .i64 m ∧ Hid (StIn w L X a n k w' m)) (fun i _ => (intOf i).toNat)
  case atStart => exact ⟨q, rfl, I4⟩
  case round =>
    obtain ⟨wo, rfl⟩ : ∃ x, x = wr := ⟨_, rfl⟩
    obtain ⟨m, rfl, HI⟩ := hrel
    obtain ⟨l, now, a', c', kk, i1, i2, i3, i4, i5, i6, i7, i8⟩ := HI.out
    have E3 : Hid _ := i3
    have E4 : Hid _ := i4
    have E5 : Hid _ := i5
    have E6 : Hid _ := i6
    have E7 : Hid _ := i7
    have E8 : Hid _ := i8
    have zo := i7.size
    have hXl : X < wo.heap.size := (Array.getElem?_eq_some_iff.1 i3).1
    clear i3 i4 i5 i6 i7 i8 HI
    by_cases h0 : 0 < m
    case neg =>
      obtain rfl : m = 0 := by omega
      have x0 := fun o => row_cell E3.out o
      have hlen := storeB_bd E5.out
      have h16 := (storeB_all E5.out).1
      have HBD : Hid (ChsBd 1048576 l) := ⟨by omega, fun x hx => by have := hlen x hx; omega⟩
      clear hlen h16
      go_wp2_with fail
      refine (spec_l06Own a' c' l now _ (Beside.row E4.out (by omega)) HBD.out).mono ?_
      rintro e w5 ⟨v5, rfl, o5, b5⟩
      have c5 := (b5.block w.heap.size (by omega)).trans E8.out
      have x5 := fun o => row_cell c5 o
      have y5 := fun o => row_frozen c5 o
      have O5 : Hid _ := o5
      have G5 : Hid (w.grownBy w5 (some L)) := grown_below E7.out b5
      have z5 := b5.size
      obtain ⟨a9, c9, hv9, _⟩ := OwnK.chRow o5
      subst hv9
      clear b5 c5 o5 x0
      go_wp2_with fail
      refine bodyPost_ret (v := .agg #[.slice a9 l.length c9, .int .i64 now]) (by simp [results, Try.results22, go_sem, x5]) rfl ⟨⟨l, now, _, rfl, ?_, E5.out, by omega⟩, ?_⟩
      · obtain ⟨vs, h1, h2⟩ := OwnK.move O5.out (w' := (w5.setCell ⟨w.heap.size, 0, none⟩ (.slice a9 l.length c9)).setCell ⟨w.heap.size, 1, none⟩ (.int .i64 now)) (by simp) (fun k hk => by rw [heap_set _ _ _ _ _ (by omega), heap_set _ _ _ _ _ (by omega)])
        exact ⟨vs, own_low h1 (by omega), h2.low (by omega)⟩
      · exact grown_far (grown_far G5.out (Nat.le_refl _) _ _) (Nat.le_refl _) _ _
    have h0' : (0 : Int) < m := by omega
    go_upto_region 5 with fail
    go_cut [] from 17 to 20 (fun wx => Hid (∃ (l : Chs) (now : Nat) (a' : Option Addr) (c' : Nat), m + now ≤ 14 ∧ wx.heap[X]? = some (.cells #[.slice a' l.length c', .int .i64 now] 25 (0, 0)) ∧ Beside (w.heap.size + 1) X wx a' l ∧ storeB l now = true ∧ SrcSt wx L a n (kk + 13) ∧ w.grownBy wx (some L) ∧ wx.heap[w.heap.size]? = some (.cells #[.slice none 0 0, .int .i64 0] 25 (0, 0))))
    case first =>
      refine region_rel5 (n := 4) (k := 1) (by omega) (by kernel_rfl) (by kernel_rfl) (by kernel_rfl) (fun u => ⟨#[.pointer (some ⟨L, 0, none⟩), undef, .pointer (some ⟨w.heap.size, 0, none⟩), .pointer (some ⟨X, 0, none⟩), .int .i64 m, u5, u6, .agg #[.slice a1 l0.length 16, .int .i64 0], .pointer (some ⟨L, 0, none⟩), .pointer (some ⟨L, 0, none⟩), .int .i64 v, .int .i64 ((v : Int) + 4), .int .i64 q, .int .i64 m, .bool true, u15, u16, u 17, u 18, u 19, u 20, u21, u22, u23, u24, u25, u26, u27, u28, u29, u30, u31, u32, u33, undef, undef], []⟩) (fun n => match n with | 17 => u17 | 18 => u18 | 19 => u19 | 20 => u20 | _ => undef) (fun i => 17 + i) (fun i j _ _ h => by omega)
        (PuPv L now a' l.length c') (PuJ wo L X (w.heap.size + 1) a n kk now) (PuJ.start E6.out) ?step ?last
      case step =>
        intro D u W i hi hLs hLi hj hdep
        have hzW := hj.grown.size
        have oldb : ∀ g, g ≠ L → g < wo.heap.size → W.heap[g]? = wo.heap[g]? := fun g h1 hg => hj.grown.block g hg (by simp; omega)
        have hcase : i = 0 ∨ i = 1 ∨ i = 2 ∨ i = 3 := by omega
        rcases hcase with rfl | rfl | rfl | rfl
        · have x6 := fun o => row_cell ((oldb _ (by omega) hXl).trans E3.out) o
          refine wpOp_step rfl (fun K hK => ?_)
          clear hdep
          go_simp
          exact hK _ _ ⟨_, rfl, fun _ _ h => PuPv.up h, rfl, hj.step (by omega) (by omega)⟩
        · refine wpOp_step rfl (fun K hK => ?_)
          clear hdep
          go_simp
          exact hK _ _ ⟨_, rfl, fun _ _ h => PuPv.up h, rfl, hj.step (by omega) (by omega)⟩
        · have d1 : u 18 = .pointer (some ⟨L, 0, none⟩) := (hdep _ rfl ⟨1, .data⟩ (by simp) rfl).2
          have l2 : D.getD 2 false = false := by
            cases h8 : D.getD 2 false
            · rfl
            · rw [getD_both (by omega) h8] at hLi; cases hLi
          have HSW : Hid _ := hj.before l2
          have HRW : Hid _ := row_keep HR0.out (grown_trans E7.out hj.grown)
          refine wpOp_step rfl (fun K hK => ?_)
          clear hdep
          go_simp
          refine (puts_any L n kk a _ HSW.out HRW.out (by omega) hn).mono ?_
          rintro e w8 ⟨⟨ps, pa, pc, rfl, r8, hl8, hp8⟩, s8, g8⟩
          have hJ8 : PuJ wo L X (w.heap.size + 1) a n kk now (D.setIfInBounds 2 true) (upd u 19 (.slice pa ps.length pc)) w8 := by
            refine ⟨grown_trans hj.grown g8, fun h1 => ?_, fun _ => ⟨s8, ps, pa, pc, by rw [upd_at], r8, hl8, hp8⟩, fun h1 => ?_⟩
            · simp [show 2 < D.size by omega] at h1
            · rw [getD_set_ne false (by omega)] at h1
              rw [upd_ne _ _ (by omega)]
              obtain ⟨l2, a2, c2, now2, h1, h2, h3⟩ := hj.wrote h1
              exact ⟨l2, a2, c2, now2, h1, h2.keep (by omega) (by omega) g8.size (fun g a1 a2 a3 => g8.block g a2 (by simp; omega)), h3⟩
          exact hK _ _ ⟨_, by simp [upd, d1], fun _ _ h => PuPv.up h, trivial, hJ8⟩
        · have d0 : u 17 = .agg #[.slice a' l.length c', .int .i64 now] := (hdep _ rfl ⟨0, .data⟩ (by simp) rfl).2
          have l2 := (hdep _ rfl ⟨2, .data⟩ (by simp) rfl).1
          obtain ⟨s7, ps, pa, pc, d2, r7, hl7, hp7⟩ := hj.after_ l2
          have HBW : Hid (Beside (w.heap.size + 1) X W a' l) := Beside.keep E4.out (by omega) (by omega) hzW (fun g h1 h2 _ => oldb g (by omega) h2)
          have S7 : Hid _ := s7
          have R7 : Hid _ := r7
          have P7 : Hid _ := hp7
          refine wpOp_step rfl (fun K hK => ?_)
          clear hdep s7 r7 hp7
          go_simp
          refine (write_any a' pa c' pc l ps now X (w.heap.size + 1) _ HBW.out (by omega) (by omega) R7.out E5.out (by omega) hl7 P7.out).mono ?_
          rintro e w8 ⟨⟨l8, a8, c8, now8, rfl, h81, h82, h83⟩, b8⟩
          have hJ8 : PuJ wo L X (w.heap.size + 1) a n kk now (D.setIfInBounds 3 true) (upd u 20 (.agg #[.slice a8 l8.length c8, .int .i64 now8])) w8 := by
            refine ⟨grown_below hj.grown b8, fun h1 => ?_, fun _ => ⟨SrcSt.move S7.out (b8.block L (by omega)), ps, pa, pc, by rw [upd_ne _ _ (by omega)]; exact d2, VeRow.wide (VeRow.keep R7.out (agree b8 (Nat.le_refl _))) (Nat.le_refl _) b8.size, hl7, P7.out⟩, fun _ => ⟨l8, a8, c8, now8, by rw [upd_at], h81, h82, h83⟩⟩
            rw [getD_set_ne false (by omega), l2] at h1; cases h1
          exact hK _ _ ⟨_, by simp [upd, d0, d2], fun _ _ h => PuPv.up h, trivial, hJ8⟩
      case last =>
        intro D u W hLs hD hj hp
        have hzW := hj.grown.size
        obtain ⟨l8, a8, c8, now8, d3, h81, h82, h83⟩ := hj.wrote (hD 3 (by omega))
        have s8 := (hj.after_ (hD 2 (by omega))).1
        have cX : W.heap[X]? = _ := (hj.grown.block X hXl (by simp; omega)).trans E3.out
        have q2 := fun o => row_cell cX o
        have f2 := fun o => row_frozen cX o
        have HF : Hid (∃ (l : Chs) (now : Nat) (a' : Option Addr) (c' : Nat), m + now ≤ 14 ∧ ((W.setCell ⟨X, 0, none⟩ (.slice a8 l8.length c8)).setCell ⟨X, 1, none⟩ (.int .i64 now8)).heap[X]? = some (.cells #[.slice a' l.length c', .int .i64 now] 25 (0, 0)) ∧ Beside (w.heap.size + 1) X ((W.setCell ⟨X, 0, none⟩ (.slice a8 l8.length c8)).setCell ⟨X, 1, none⟩ (.int .i64 now8)) a' l ∧ storeB l now = true ∧ SrcSt ((W.setCell ⟨X, 0, none⟩ (.slice a8 l8.length c8)).setCell ⟨X, 1, none⟩ (.int .i64 now8)) L a n (kk + 13) ∧ w.grownBy ((W.setCell ⟨X, 0, none⟩ (.slice a8 l8.length c8)).setCell ⟨X, 1, none⟩ (.int .i64 now8)) (some L) ∧ ((W.setCell ⟨X, 0, none⟩ (.slice a8 l8.length c8)).setCell ⟨X, 1, none⟩ (.int .i64 now8)).heap[w.heap.size]? = some (.cells #[.slice none 0 0, .int .i64 0] 25 (0, 0))) := by
          refine ⟨l8, now8, a8, c8, by omega, ?_, ?_, h82, ?_, ?_, ?_⟩
          · have := row_set (row_set cX 0 (.slice a8 l8.length c8)) 1 (.int .i64 now8)
            simpa using this
          · exact Beside.keep h81 (by omega) (by omega) (by simp) (fun g h1 h2 h3 => by rw [heap_set _ _ _ _ _ h3, heap_set _ _ _ _ _ h3])
          · exact SrcSt.move s8 (by rw [heap_set _ _ _ _ _ (by omega), heap_set _ _ _ _ _ (by omega)])
          · exact grown_far (grown_far (grown_trans E7.out hj.grown) (by omega) _ _) (by omega) _ _
          · rw [heap_set _ _ _ _ _ (by omega), heap_set _ _ _ _ _ (by omega)]
            exact (hj.grown.block _ (by omega) (by simp; omega)).trans E8.out
        clear hp hj cX h81 h82 s8
        unfold wpTail
        refine wpOp_step rfl (fun K hK => ?_)
        go_simp
        refine hK _ _ ?_
        clear hK
        unfold wpTail
        go_wp2_with fail
        go_meet
        exact HF
    obtain ⟨wy, rfl⟩ : ∃ x, x = wc := ⟨_, rfl⟩
    clear E3 E4 E5 E6 E7 E8
    obtain ⟨l2, now2, a2, c2, j1, j2, j3, j4, j5, j6, j7⟩ := hcut.out
    have zy := j6.size
    have hXy : X < wy.heap.size := (Array.getElem?_eq_some_iff.1 j2).1
    have F2 : Hid _ := j2
    have F3 : Hid _ := j3
    have F4 : Hid _ := j4
    have F5 : Hid _ := j5
    have F6 : Hid _ := j6
    have F7 : Hid _ := j7
    clear j2 j3 j4 j5 j6 j7 hcut
    go_wp2_with fail
    refine (chance_any 6 L n (kk + 13) a _ F5.out (row_keep HR0.out F6.out) (by omega) hn (by omega) (by omega)).mono ?_
    rintro e w9 ⟨⟨B, rfl⟩, s9, g9⟩
    have z9 := g9.size
    have old9 : ∀ g, g ≠ L → g < wy.heap.size → w9.heap[g]? = wy.heap[g]? := fun g h1 hg => g9.block g hg (by simp; omega)
    have K2 : Hid _ := (old9 X (by omega) hXy).trans F2.out
    have K3 : Hid (Beside (w.heap.size + 1) X w9 a2 l2) := Beside.keep F3.out (by omega) (by omega) z9 (fun g h1 h2 _ => old9 g (by omega) h2)
    have K5 : Hid _ := s9
    have K6 : Hid (w.grownBy w9 (some L)) := grown_trans F6.out g9
    have K7 : Hid _ := (old9 w.heap.size (by omega) (by omega)).trans F7.out
    clear s9 g9 old9 F2 F3 F5 F6 F7
    cases B
    · go_wp2_with fail
      exact ⟨⟨m - 1, by go_num, ⟨l2, now2, a2, c2, kk + 13 + 1, by omega, by omega, K2.out, K3.out, F4.out, K5.out, K6.out, K7.out⟩⟩, by simp [intOf]; omega⟩
    · have hX9 : X < w9.heap.size := by omega
      have hbd2 := storeB_bd F4.out
      have hal2 := storeB_all F4.out
      have H16 : Hid _ := hal2.1
      have HBD : Hid (ChsBd 1048576 l2) := ⟨by have := hal2.1; omega, fun x hx => by have := hbd2 x hx; omega⟩
      have HRI : Hid (∀ i (h : i < l2.length), Rise l2[i]) := fun i hi => chain_rise (chainsB_at hal2.2.2.2 hi)
      clear hbd2 hal2
      go_upto_region 7 with fail
      go_cut [5] from 23 to 32 (fun p wx => ∃ (y t : Nat) (a3 : Option Addr) (c3 : Nat), p = .pointer (some ⟨y, 0, none⟩) ∧ w9.heap.size ≤ y ∧ Hid (wx.heap[y]? = some (.cells #[.slice a3 (fgS t l2).length c3, .int .i64 now2] 25 (0, 0))) ∧ Hid (Beside w9.heap.size y wx a3 (fgS t l2)) ∧ Hid (SrcSt wx L a n (kk + 13 + 1 + 1)) ∧ Hid (w9.grownBy wx (some L)))
      case first =>
        refine region_rel5 (n := 12) (k := 1) (by omega) (by kernel_rfl) (by kernel_rfl) (by kernel_rfl) (fun u => ⟨#[.pointer (some ⟨L, 0, none⟩), undef, .pointer (some ⟨w.heap.size, 0, none⟩), .pointer (some ⟨X, 0, none⟩), .int .i64 m, u 5, u6, .agg #[.slice a1 l0.length 16, .int .i64 0], .pointer (some ⟨L, 0, none⟩), .pointer (some ⟨L, 0, none⟩), .int .i64 v, .int .i64 ((v : Int) + 4), .int .i64 q, .int .i64 m, .bool true, u15, u16, u17, u18, u19, u20, .pointer (some ⟨L, 0, none⟩), .bool true, u 23, u 24, u 25, u 26, u 27, u 28, u 29, u 30, u 31, u 32, u33, undef, undef], []⟩) (fun n => match n with | 5 => u5 | 23 => u23 | 24 => u24 | 25 => u25 | 26 => u26 | 27 => u27 | 28 => u28 | 29 => u29 | 30 => u30 | 31 => u31 | 32 => u32 | _ => undef) (fun i => [24, 25, 26, 27, 28, 29, 30, 23, 31, 32, 5, 99].getD i 0) (fun i j hi hj h => fo_dst i hi j hj h)
          (FoPv L X now2 a2 l2.length c2) (FoJ w9 L a n (kk + 13 + 1) now2 l2) (FoJ.start K5.out) ?step ?last
        case step =>
          intro D u W i hi hLs hLi hj hdep
          have hzW := hj.grown.size
          have oldb : ∀ g, g ≠ L → g < w9.heap.size → W.heap[g]? = w9.heap[g]? := fun g h1 hg => hj.grown.block g hg (by simp; omega)
          have hcase : i = 0 ∨ i = 1 ∨ i = 2 ∨ i = 3 ∨ i = 4 ∨ i = 5 ∨ i = 6 ∨ i = 7 ∨ i = 8 ∨ i = 9 ∨ i = 10 ∨ i = 11 := by omega
          rcases hcase with rfl | rfl | rfl | rfl | rfl | rfl | rfl | rfl | rfl | rfl | rfl | rfl
          · have x6 := fun o => row_cell ((oldb _ (by omega) hX9).trans K2.out) o
            refine wpOp_step rfl (fun K hK => ?_)
            clear hdep
            go_simp
            exact hK _ _ ⟨_, rfl, fun _ _ h => FoPv.up h, rfl, hj.step (by omega) (by simp)⟩
          · refine wpOp_step rfl (fun K hK => ?_)
            clear hdep
            go_simp
            exact hK _ _ ⟨_, rfl, fun _ _ h => FoPv.up h, rfl, hj.step (by omega) (by simp)⟩
          · refine wpOp_step rfl (fun K hK => ?_)
            clear hdep
            go_simp
            exact hK _ _ ⟨_, rfl, fun _ _ h => FoPv.up h, rfl, hj.step (by omega) (by simp)⟩
          · have d2 : u 26 = .pointer (some ⟨X, 1, none⟩) := (hdep _ rfl ⟨2, .data⟩ (by simp) rfl).2
            have x6 := fun o => row_cell ((oldb _ (by omega) hX9).trans K2.out) o
            refine wpOp_step rfl (fun K hK => ?_)
            clear hdep
            go_simp
            exact hK _ _ ⟨_, by simp [upd, d2], fun _ _ h => FoPv.up h, rfl, hj.step (by omega) (by simp)⟩
          · have d3 : u 27 = .int .i64 now2 := (hdep _ rfl ⟨3, .data⟩ (by simp) rfl).2
            refine wpOp_step rfl (fun K hK => ?_)
            clear hdep
            go_simp
            have hwr : IntKind.i64.wrap ((now2 : Int) + 1) = (now2 : Int) + 1 := by unfold IntKind.wrap; simp [IntKind.bits, IntKind.signed]; omega
            exact hK _ _ ⟨.int .i64 ((now2 + 1 : Nat) : Int), by simp [upd, d3, hwr], fun _ _ h => FoPv.up h, rfl, hj.step (by omega) (by simp)⟩
          · have d1 : u 25 = .pointer (some ⟨L, 0, none⟩) := (hdep _ rfl ⟨1, .data⟩ (by simp) rfl).2
            have d4 : u 28 = .int .i64 ((now2 + 1 : Nat) : Int) := (hdep _ rfl ⟨4, .data⟩ (by simp) rfl).2
            have l5 : D.getD 5 false = false := by
              cases h8 : D.getD 5 false
              · rfl
              · rw [getD_both (by omega) h8] at hLi; cases hLi
            have HSW : Hid _ := hj.s0 l5
            have HRW : Hid _ := row_keep HR0.out (grown_trans K6.out hj.grown)
            have HJ : Hid _ := hj
            refine wpOp_step rfl (fun K hK => ?_)
            clear hdep
            go_simp
            refine (next_pos (now2 + 1) L n _ a _ HSW.out HRW.out (by omega) hn (by omega) (by omega)).mono ?_
            rintro e w8 ⟨⟨t, ht, rfl⟩, s8, g8⟩
            exact hK _ _ ⟨.int .i64 t, by simp [upd, d1, d4], fun _ _ h => FoPv.up h, trivial, FoJ.five HJ.out (by omega) g8 (by omega) s8⟩
          · have d0 : u 24 = .agg #[.slice a2 l2.length c2, .int .i64 now2] := (hdep _ rfl ⟨0, .data⟩ (by simp) rfl).2
            have l5 := (hdep _ rfl ⟨5, .data⟩ (by simp) rfl).1
            have l6 : D.getD 6 false = false := by
              cases h8 : D.getD 6 false
              · rfl
              · rw [getD_both (by omega) h8] at hLi; cases hLi
            obtain ⟨t, d5⟩ := (hj.s1 l5).2
            have HBW : Hid (Beside (w.heap.size + 1) X W a2 l2) := Beside.keep K3.out (by omega) (by omega) hzW (fun g h1 h2 _ => oldb g (by omega) h2)
            have HJ : Hid _ := hj
            refine wpOp_step rfl (fun K hK => ?_)
            clear hdep
            go_simp
            refine (spec_l06Forget a2 c2 l2 now2 t _ (Beside.row HBW.out (by omega)) HBD.out H16.out HRI.out).mono ?_
            rintro e w8 ⟨a8, c8, rfl, r8, b8⟩
            exact hK _ _ ⟨foTup t a8 c8 (goS t l2) now2 l2, by simp [upd, d0, d5, foTup], fun _ _ h => FoPv.up h, trivial, FoJ.six HJ.out (by omega) b8 l6 l5 r8⟩
          · have l6 := (hdep _ rfl ⟨6, .data⟩ (by simp) rfl).1
            have HJ : Hid _ := hj
            refine wpOp_step rfl (fun K hK => ?_)
            clear hdep
            go_simp
            exact hK _ _ ⟨u 30, rfl, fun _ _ h => FoPv.up h, trivial, FoJ.seven HJ.out l6⟩
          · have l7 := (hdep _ rfl ⟨7, .data⟩ (by simp) rfl).1
            obtain ⟨e23, l6⟩ := hj.m7 l7
            obtain ⟨x, z, h30, hx⟩ : ∃ (x z : Value), u 30 = .tuple #[x, z] ∧ u 23 = .tuple #[x, z] := by
              by_cases l10 : D.getD 10 false = true
              · obtain ⟨_, t, a3, c3, z, _, _, _, h4, _⟩ := hj.d l6 l10
                exact ⟨_, _, h4, e23.trans h4⟩
              · obtain ⟨t, a3, c3, z, h4, _⟩ := hj.b l6 (by simpa using l10)
                exact ⟨_, _, h4, e23.trans h4⟩
            have HJ : Hid _ := hj
            refine wpOp_step rfl (fun K hK => ?_)
            clear hdep e23
            go_simp
            exact hK _ _ ⟨x, by simp [upd, hx, h30], fun _ _ h => FoPv.up h, trivial, FoJ.eight HJ.out l6 h30⟩
          · have l7 := (hdep _ rfl ⟨7, .data⟩ (by simp) rfl).1
            obtain ⟨e23, l6⟩ := hj.m7 l7
            obtain ⟨x, z, h30, hx⟩ : ∃ (x z : Value), u 30 = .tuple #[x, z] ∧ u 23 = .tuple #[x, z] := by
              by_cases l10 : D.getD 10 false = true
              · obtain ⟨_, t, a3, c3, z, _, _, _, h4, _⟩ := hj.d l6 l10
                exact ⟨_, _, h4, e23.trans h4⟩
              · obtain ⟨t, a3, c3, z, h4, _⟩ := hj.b l6 (by simpa using l10)
                exact ⟨_, _, h4, e23.trans h4⟩
            have HJ : Hid _ := hj
            refine wpOp_step rfl (fun K hK => ?_)
            clear hdep e23
            go_simp
            exact hK _ _ ⟨z, by simp [upd, hx, h30], fun _ _ h => FoPv.up h, trivial, FoJ.step HJ.out (by omega) (by simp)⟩
          · have l10 : D.getD 10 false = false := by
              cases h8 : D.getD 10 false
              · rfl
              · rw [getD_both (by omega) h8] at hLi; cases hLi
            have HJ : Hid _ := hj
            refine wpOp_step rfl (fun K hK => ?_)
            clear hdep
            go_simp
            exact hK _ _ ⟨.pointer (some ⟨W.heap.size, 0, none⟩), rfl, fun _ _ h => FoPv.up h, trivial, FoJ.ten HJ.out (by omega) ((Below.refl _ _).alloc (Nat.le_refl _) _) (by omega) l10 (heap_alloc_new _ _)⟩
          · have l10 := (hdep _ rfl ⟨10, .data⟩ (by simp) rfl).1
            have l8 := (hdep _ rfl ⟨8, .data⟩ (by simp) rfl).1
            obtain ⟨⟨x, z, h30, h31⟩, l6⟩ := hj.m8 l8
            have l11 : D.getD 11 false = false := by
              cases h8 : D.getD 11 false
              · rfl
              · rw [getD_both (by omega) h8] at hLi; cases hLi
            obtain ⟨y, t, a3, c3, z', q1, q2, q3, q4, q5, q6, _⟩ := hj.d l6 l10
            have hxe : x = .agg #[.slice a3 (fgS t l2).length c3, .int .i64 now2] := by
              rw [h30] at q4
              simp only [foTup, Value.tuple.injEq, Array.mk.injEq, List.cons.injEq] at q4
              exact q4.1
            subst hxe
            have cy := q6 l11
            have hc2 : ((W.setCell ⟨y, 0, none⟩ (.slice a3 (fgS t l2).length c3)).setCell ⟨y, 1, none⟩ (.int .i64 now2)).heap[y]? = some (.cells #[.slice a3 (fgS t l2).length c3, .int .i64 now2] 25 (0, 0)) := by
              have := row_set (row_set cy 0 (.slice a3 (fgS t l2).length c3)) 1 (.int .i64 now2)
              simpa using this
            have HJ2 : Hid (∀ val, FoJ w9 L a n (kk + 13 + 1) now2 l2 (D.setIfInBounds 11 true) (upd u 99 val) ((W.setCell ⟨y, 0, none⟩ (.slice a3 (fgS t l2).length c3)).setCell ⟨y, 1, none⟩ (.int .i64 now2))) := fun val => FoJ.eleven hj (by omega) (by omega) l6 l10 q1 q2 q3 q4 q5 (fun g hg => by rw [heap_set _ _ _ _ _ hg, heap_set _ _ _ _ _ hg]) (by simp) (grown_far (grown_far hj.grown q2 _ _) q2 _ _) hc2
            have x6 := fun o => row_cell cy o
            have y6 := fun o => row_frozen cy o
            refine wpOp_step rfl (fun K hK => ?_)
            clear hdep hc2 cy q4 q5 q6 h30
            go_simp
            exact hK _ _ ⟨undef, by simp [upd, q1, h31], fun _ _ h => FoPv.up h, trivial, HJ2.out _⟩
        case last =>
          intro D u W hLs hD hj hp
          obtain ⟨y, t, a3, c3, z, q1, q2, q3, q4, q5, _, q7⟩ := hj.d (hD 6 (by omega)) (hD 10 (by omega))
          have Q7 : Hid _ := q7 (hD 11 (by omega))
          have Q5 : Hid _ := q5
          have QS : Hid _ := (hj.s1 (hD 5 (by omega))).1
          have QG : Hid _ := hj.grown
          clear hp hj q4 q5 q7
          unfold wpTail
          refine wpOp_step rfl (fun K hK => ?_)
          go_simp
          refine hK _ _ ?_
          clear hK
          unfold wpTail
          go_wp2_with fail
          go_meet
          exact ⟨y, t, a3, c3, rfl, q2, Q7, Q5, QS, QG⟩
      obtain ⟨wz, rfl⟩ : ∃ x, x = wc := ⟨_, rfl⟩
      obtain ⟨y, t, a3, c3, rfl, hy, M2, M3, M5, M6⟩ := hcut
      have zz := M6.out.size
      have hyl : y < wz.heap.size := (Array.getElem?_eq_some_iff.1 M2.out).1
      have cX := (M6.out.block X hX9 (by simp; omega)).trans K2.out
      have cR := (M6.out.block w.heap.size (by omega) (by simp; omega)).trans K7.out
      have x1 := fun o => row_cell M2.out o
      have x2 := fun o => row_cell cX o
      have y2 := fun o => row_frozen cX o
      have HF : Hid (StIn w L X a n k ((wz.setCell ⟨X, 0, none⟩ (.slice a3 (fgS t l2).length c3)).setCell ⟨X, 1, none⟩ (.int .i64 now2)) (m - 1)) := by
        refine ⟨fgS t l2, now2, a3, c3, kk + 13 + 1 + 1, by omega, by omega, ?_, ?_, storeB_fg _ F4.out, ?_, ?_, ?_⟩
        · have := row_set (row_set cX 0 (.slice a3 (fgS t l2).length c3)) 1 (.int .i64 now2)
          simpa using this
        · refine Beside.keep (show Beside (w.heap.size + 1) X wz a3 (fgS t l2) from .inr ?_) (by omega) (by omega) (by simp) (fun g h1 h2 h3 => by rw [heap_set _ _ _ _ _ h3, heap_set _ _ _ _ _ h3])
          rcases M3.out with h | h
          · exact ChRow.wide h (by omega) (by omega)
          · exact ChRow.wide h (by omega) (Nat.le_refl _)
        · exact SrcSt.move M5.out (by rw [heap_set _ _ _ _ _ (by omega), heap_set _ _ _ _ _ (by omega)])
        · exact grown_far (grown_far (grown_trans K6.out M6.out) (by omega) _ _) (by omega) _ _
        · rw [heap_set _ _ _ _ _ (by omega), heap_set _ _ _ _ _ (by omega)]
          exact cR
      clear cX cR
      go_wp2_with fail
      exact ⟨⟨m - 1, by go_num, HF⟩, by simp [intOf]; omega⟩
end Go.Proofs.Ytoahbfledamnnaa.G
