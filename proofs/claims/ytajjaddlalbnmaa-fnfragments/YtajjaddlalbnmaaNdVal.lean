/- Drawn values, directives: by existence. -/
import Derived.Test.YtajjaddlalbnmaaNdSrc
namespace Go.Proofs.Ytajjaddlalbnmaa
open Go.ChangeShapes Go.WideShapes Go.ChangeAt Go.RowKit
open Go.Proofs.Ytajjaddlalbnmaa.G (row_cell row_frozen row_set)
set_option linter.unusedVariables false

theorem results_ndv (tmps : Array Value) (W : World) (N : Nat) (cs : Array Value) (h2 : tmps.getD 2 undef = .pointer (some ⟨N, 0, none⟩)) (hrow : W.heap[N]? = some (.cells cs 38 (0, 0))) (hsz : cs.size = 3) :
    (results Try.f43 tmps).run Try.prog W = .ok (.agg cs) W := by
  have c39 : (Try.prog.info? 38).map (·.size) = some 3 := by kernel_rfl
  exact results_cell_row Try.results43 tmps W N 38 cs (0, 0) _ h2 hrow Try.underlying38 rfl (by rw [hsz]; exact c39)
theorem results_ndb (tmps : Array Value) (W : World) (N : Nat) (cs : Array Value) (h2 : tmps.getD 2 undef = .pointer (some ⟨N, 0, none⟩)) (hrow : W.heap[N]? = some (.cells cs 38 (0, 0))) (hsz : cs.size = 3) :
    (results Try.f57 tmps).run Try.prog W = .ok (.agg cs) W := by
  have c39 : (Try.prog.info? 38).map (·.size) = some 3 := by kernel_rfl
  exact results_cell_row Try.results57 tmps W N 38 cs (0, 0) _ h2 hrow Try.underlying38 rfl (by rw [hsz]; exact c39)
/-- A value that is right and small. -/
def VGood (v : Va) : Prop := valB v = true ∧ v.t.size ≤ 40
theorem put3w {w W : World} {L N : Nat} {cs : Array Value} {e : TypeId} (hN : w.heap.size ≤ N) (g : w.grownBy W (some L)) (c : W.heap[N]? = some (.cells cs e (0, 0))) (v0 v1 v2 : Value) :
    w.grownBy (((W.setCell ⟨N, 0, none⟩ v0).setCell ⟨N, 1, none⟩ v1).setCell ⟨N, 2, none⟩ v2) (some L) ∧ (((W.setCell ⟨N, 0, none⟩ v0).setCell ⟨N, 1, none⟩ v1).setCell ⟨N, 2, none⟩ v2).heap[N]? = some (.cells (((cs.setIfInBounds 0 v0).setIfInBounds 1 v1).setIfInBounds 2 v2) e (0, 0)) :=
  ⟨grown_new (grown_new (grown_new g hN _) hN _) hN _, row_set (row_set (row_set c 0 v0) 1 v1) 2 v2⟩
theorem SrcSt.set {w : World} {L n k N o : Nat} {a : Option Addr} {v : Value} (h : SrcSt w L a n k) (hN : N ≠ L) : SrcSt (w.setCell ⟨N, o, none⟩ v) L a n k := h.move (heap_setCell_other _ _ _ _ (by show L ≠ N; omega))
theorem noB_nil : noB ⟨#[]⟩ = true := no_of (by rw [ByteArray.toList_eq])
theorem vg_bit {m : Nat} (h : m < 2) : VGood ⟨2, (m : Int), ⟨#[]⟩⟩ := by
  have : m = 0 ∨ m = 1 := by omega
  rcases this with rfl | rfl
  · exact ⟨by simp [valB, noB_nil], Nat.zero_le _⟩
  · exact ⟨by simp [valB, noB_nil], Nat.zero_le _⟩
set_option maxHeartbeats 2000000 in
theorem nd_value (L n k : Nat) (a : Option Addr) (w : World) (h : SrcSt w L a n k) (hr : ByteRow L w a n) (hk : k ≤ 90000) (hn : n ≤ 1048576) :
    Calls Try.prog 43 #[.pointer (some ⟨L, 0, none⟩)] w fun e w' => (∃ v : Va, VGood v ∧ e = .returned (.agg #[.int .i64 v.k, .int .i64 v.n, .string v.t])) ∧ SrcSt w' L a n (k + 2) ∧ w.grownBy w' (some L) := by
  have S0 : Hid (SrcSt w L a n k) := h
  have R0 : Hid (ByteRow L w a n) := hr
  have G0 : Hid (w.grownBy w (some L)) := grown_refl w _
  have hLw := h.lt
  clear h hr
  go_enter Try.func43, Try.ntmps43
  obtain ⟨U1, hU1⟩ : ∃ U, U = w.alloc (.cells #[.int .i64 0, .int .i64 0, .string ⟨#[]⟩] 38) := ⟨_, rfl⟩
  have bU1 : Below w.heap.size w U1 := by rw [hU1]; exact (Below.refl _ _).alloc (Nat.le_refl _) _
  have zU1 : w.heap.size + 1 ≤ U1.heap.size := by rw [hU1]; simp
  have n1a : Hid (U1.heap[w.heap.size]? = some (.cells #[.int .i64 0, .int .i64 0, .string ⟨#[]⟩] 38 (0, 0))) := by
    rw [Hid, hU1]
    exact heap_alloc_new _ _
  have S1 : Hid (SrcSt U1 L a n (k)) := S0.out.move (bU1.block L S0.out.lt)
  have R1 : Hid (ByteRow L U1 a n) := R0.out.up (Nat.le_of_lt S0.out.lt) bU1
  have G1 : Hid (w.grownBy U1 (some L)) := grown_below G0.out bU1
  have RB : Hid (U1.heap[w.heap.size]? = some (.cells #[.int .i64 0, .int .i64 0, .string ⟨#[]⟩] 38 (0, 0))) := n1a.out
  clear S0 R0 G0   bU1 
  go_upto_region 1 with fail
  rw [← hU1]
  clear hU1
  have HQ2 : Hid _ := next_pos 6 L n (k) a U1 S1.out R1.out (by omega) hn (by omega) (by omega)
  go_wp2_with fail
  refine Calls.mono HQ2.out ?_
  rintro e w2 ⟨⟨v, hv, rfl⟩, s2, g2⟩
  have zw2 : U1.heap.size ≤ w2.heap.size := g2.size
  have S2 : Hid (SrcSt w2 L a n (k + 1)) := s2
  have R2 : Hid (ByteRow L w2 a n) := row_keep R1.out g2
  have G2 : Hid (w.grownBy w2 (some L)) := grown_trans G1.out g2
  have RB_2 : Hid (w2.heap[w.heap.size]? = some (.cells #[.int .i64 0, .int .i64 0, .string ⟨#[]⟩] 38 (0, 0))) := grown_keeps RB.out (Array.getElem?_eq_some_iff.1 RB.out).1 g2 (by omega)
  clear S1 R1 G1 RB  s2 g2 HQ2
  by_cases h0 : v = 0
  case pos =>
    subst h0
    have ha0 : ((0 : Int) == 0) = true := rfl
    obtain ⟨U3, hU3⟩ : ∃ U, U = w2.alloc (.cells #[.string ⟨#[120]⟩, .string ⟨#[121]⟩] 9) := ⟨_, rfl⟩
    have bU3 : Below w2.heap.size w2 U3 := by rw [hU3]; exact (Below.refl _ _).alloc (Nat.le_refl _) _
    have zU3 : w2.heap.size + 1 ≤ U3.heap.size := by rw [hU3]; simp
    have n3a : Hid (U3.heap[w2.heap.size]? = some (.cells #[.string ⟨#[120]⟩, .string ⟨#[121]⟩] 9 (0, 0))) := by
      rw [Hid, hU3]
      exact heap_alloc_new _ _
    have S3 : Hid (SrcSt U3 L a n (k + 1)) := S2.out.move (bU3.block L S2.out.lt)
    have R3 : Hid (ByteRow L U3 a n) := R2.out.up (Nat.le_of_lt S2.out.lt) bU3
    have G3 : Hid (w.grownBy U3 (some L)) := grown_below G2.out bU3
    have RB_3 : Hid (U3.heap[w.heap.size]? = some (.cells #[.int .i64 0, .int .i64 0, .string ⟨#[]⟩] 38 (0, 0))) := (bU3.block _ (Array.getElem?_eq_some_iff.1 RB_2.out).1).trans RB_2.out
    clear S2 R2 G2 RB_2  bU3 
    have HQ4 : Hid _ := pick_lit [⟨#[120]⟩, ⟨#[121]⟩] (w2.heap.size) 2 L n (k + 1) a U3 S3.out R3.out (by omega) hn (by decide) (by decide) (by omega) n3a.out
    go_wp2_with fail
    rw [← hU3]
    clear hU3
    refine Calls.mono HQ4.out ?_
    rintro e w4 ⟨⟨sx, hs, rfl⟩, s4, g4⟩
    have zw4 : U3.heap.size ≤ w4.heap.size := g4.size
    have S4 : Hid (SrcSt w4 L a n (k + 1 + 1)) := s4
    have R4 : Hid (ByteRow L w4 a n) := row_keep R3.out g4
    have G4 : Hid (w.grownBy w4 (some L)) := grown_trans G3.out g4
    have RB_4 : Hid (w4.heap[w.heap.size]? = some (.cells #[.int .i64 0, .int .i64 0, .string ⟨#[]⟩] 38 (0, 0))) := grown_keeps RB_3.out (Array.getElem?_eq_some_iff.1 RB_3.out).1 g4 (by omega)
    clear S3 R3 G3 RB_3  s4 g4 HQ4
    have hsx : nameB sx = true ∧ sx.size ≤ 40 := by
      simp only [List.mem_cons, List.not_mem_nil, or_false] at hs
      rcases hs with rfl | rfl
      · exact ⟨by decide +kernel, by decide⟩
      · exact ⟨by decide +kernel, by decide⟩
    have fr := fun o => row_frozen RB_4.out o
    have xr := fun o => row_cell RB_4.out o
    go_wp2_with fail
    have P := put3w (Nat.le_refl _) G4.out RB_4.out (.int .i64 4) (.int .i64 0) (.string sx)
    refine bodyPost_ret (v := .agg #[.int .i64 4, .int .i64 0, .string sx]) (results_ndv _ _ w.heap.size _ rfl P.2 rfl) rfl ⟨⟨⟨4, 0, sx⟩, ⟨by simp [valB, hsx.1], hsx.2⟩, rfl⟩, ?_, P.1⟩
    exact (((S4.out.set (by omega)).set (by omega)).set (by omega)).more (by omega)
  case neg =>
    have hb0 : ((v : Int) == 0) = false := by simp [h0]
    by_cases h1 : v = 1
    case pos =>
      subst h1
      have fr := fun o => row_frozen RB_2.out o
      have xr := fun o => row_cell RB_2.out o
      go_wp2_with fail
      have P := put3w (Nat.le_refl _) G2.out RB_2.out (.int .i64 3) (.int .i64 0) (.string ⟨#[]⟩)
      refine bodyPost_ret (v := .agg #[.int .i64 3, .int .i64 0, .string ⟨#[]⟩]) (results_ndv _ _ w.heap.size _ rfl P.2 rfl) rfl ⟨⟨⟨3, 0, ⟨#[]⟩⟩, ⟨by simp [valB, noB_nil], by decide⟩, rfl⟩, ?_, P.1⟩
      exact (((S2.out.set (by omega)).set (by omega)).set (by omega)).more (by omega)
    case neg =>
      have hb1 : ((v : Int) == 1) = false := by simp; omega
      have HQ5 : Hid _ := next_pos 9 L n (k + 1) a w2 S2.out R2.out (by omega) hn (by omega) (by omega)
      go_wp2_with fail
      refine Calls.mono HQ5.out ?_
      rintro e w5 ⟨⟨v2, hv2, rfl⟩, s5, g5⟩
      have zw5 : w2.heap.size ≤ w5.heap.size := g5.size
      have S5 : Hid (SrcSt w5 L a n (k + 1 + 1)) := s5
      have R5 : Hid (ByteRow L w5 a n) := row_keep R2.out g5
      have G5 : Hid (w.grownBy w5 (some L)) := grown_trans G2.out g5
      have RB_5 : Hid (w5.heap[w.heap.size]? = some (.cells #[.int .i64 0, .int .i64 0, .string ⟨#[]⟩] 38 (0, 0))) := grown_keeps RB_2.out (Array.getElem?_eq_some_iff.1 RB_2.out).1 g5 (by omega)
      clear S2 R2 G2 RB_2  s5 g5 HQ5
      have fr := fun o => row_frozen RB_5.out o
      have xr := fun o => row_cell RB_5.out o
      go_wp2_with fail
      have P := put3w (Nat.le_refl _) G5.out RB_5.out (.int .i64 1) (.int .i64 v2) (.string ⟨#[]⟩)
      refine bodyPost_ret (v := .agg #[.int .i64 1, .int .i64 v2, .string ⟨#[]⟩]) (results_ndv _ _ w.heap.size _ rfl P.2 rfl) rfl ⟨⟨⟨1, (v2 : Int), ⟨#[]⟩⟩, ⟨by simp [valB, noB_nil, intB]; omega, Nat.zero_le _⟩, rfl⟩, ?_, P.1⟩
      exact (((S5.out.set (by omega)).set (by omega)).set (by omega)).more (by omega)
set_option maxHeartbeats 2000000 in
theorem nd_bool (L n k : Nat) (a : Option Addr) (w : World) (h : SrcSt w L a n k) (hr : ByteRow L w a n) (hk : k ≤ 90000) (hn : n ≤ 1048576) :
    Calls Try.prog 57 #[.pointer (some ⟨L, 0, none⟩)] w fun e w' => (∃ v : Va, VGood v ∧ e = .returned (.agg #[.int .i64 v.k, .int .i64 v.n, .string v.t])) ∧ SrcSt w' L a n (k + 2) ∧ w.grownBy w' (some L) := by
  have S0 : Hid (SrcSt w L a n k) := h
  have R0 : Hid (ByteRow L w a n) := hr
  have G0 : Hid (w.grownBy w (some L)) := grown_refl w _
  have hLw := h.lt
  clear h hr
  go_enter Try.func57, Try.ntmps57
  obtain ⟨U6, hU6⟩ : ∃ U, U = w.alloc (.cells #[.int .i64 0, .int .i64 0, .string ⟨#[]⟩] 38) := ⟨_, rfl⟩
  have bU6 : Below w.heap.size w U6 := by rw [hU6]; exact (Below.refl _ _).alloc (Nat.le_refl _) _
  have zU6 : w.heap.size + 1 ≤ U6.heap.size := by rw [hU6]; simp
  have n6a : Hid (U6.heap[w.heap.size]? = some (.cells #[.int .i64 0, .int .i64 0, .string ⟨#[]⟩] 38 (0, 0))) := by
    rw [Hid, hU6]
    exact heap_alloc_new _ _
  have S6 : Hid (SrcSt U6 L a n (k)) := S0.out.move (bU6.block L S0.out.lt)
  have R6 : Hid (ByteRow L U6 a n) := R0.out.up (Nat.le_of_lt S0.out.lt) bU6
  have G6 : Hid (w.grownBy U6 (some L)) := grown_below G0.out bU6
  have RB : Hid (U6.heap[w.heap.size]? = some (.cells #[.int .i64 0, .int .i64 0, .string ⟨#[]⟩] 38 (0, 0))) := n6a.out
  clear S0 R0 G0   bU6 
  go_upto_region 1 with fail
  rw [← hU6]
  clear hU6
  have HQ7 : Hid _ := chance_any 4 L n (k) a U6 S6.out R6.out (by omega) hn (by omega) (by omega)
  go_wp2_with fail
  refine Calls.mono HQ7.out ?_
  rintro e w7 ⟨⟨b, rfl⟩, s7, g7⟩
  have zw7 : U6.heap.size ≤ w7.heap.size := g7.size
  have S7 : Hid (SrcSt w7 L a n (k + 1)) := s7
  have R7 : Hid (ByteRow L w7 a n) := row_keep R6.out g7
  have G7 : Hid (w.grownBy w7 (some L)) := grown_trans G6.out g7
  have RB_7 : Hid (w7.heap[w.heap.size]? = some (.cells #[.int .i64 0, .int .i64 0, .string ⟨#[]⟩] 38 (0, 0))) := grown_keeps RB.out (Array.getElem?_eq_some_iff.1 RB.out).1 g7 (by omega)
  clear S6 R6 G6 RB  s7 g7 HQ7
  cases b with
  | true =>
    have fr := fun o => row_frozen RB_7.out o
    have xr := fun o => row_cell RB_7.out o
    go_wp2_with fail
    have P := put3w (Nat.le_refl _) G7.out RB_7.out (.int .i64 4) (.int .i64 0) (.string ⟨#[98]⟩)
    refine bodyPost_ret (v := .agg #[.int .i64 4, .int .i64 0, .string ⟨#[98]⟩]) (results_ndb _ _ w.heap.size _ rfl P.2 rfl) rfl ⟨⟨⟨4, 0, ⟨#[98]⟩⟩, ⟨by decide +kernel, by decide⟩, rfl⟩, ?_, P.1⟩
    exact (((S7.out.set (by omega)).set (by omega)).set (by omega)).more (by omega)
  | false =>
    have HQ8 : Hid _ := next_pos 2 L n (k + 1) a w7 S7.out R7.out (by omega) hn (by omega) (by omega)
    go_wp2_with fail
    refine Calls.mono HQ8.out ?_
    rintro e w8 ⟨⟨v2, hv2, rfl⟩, s8, g8⟩
    have zw8 : w7.heap.size ≤ w8.heap.size := g8.size
    have S8 : Hid (SrcSt w8 L a n (k + 1 + 1)) := s8
    have R8 : Hid (ByteRow L w8 a n) := row_keep R7.out g8
    have G8 : Hid (w.grownBy w8 (some L)) := grown_trans G7.out g8
    have RB_8 : Hid (w8.heap[w.heap.size]? = some (.cells #[.int .i64 0, .int .i64 0, .string ⟨#[]⟩] 38 (0, 0))) := grown_keeps RB_7.out (Array.getElem?_eq_some_iff.1 RB_7.out).1 g8 (by omega)
    clear S7 R7 G7 RB_7  s8 g8 HQ8
    have fr := fun o => row_frozen RB_8.out o
    have xr := fun o => row_cell RB_8.out o
    go_wp2_with fail
    have P := put3w (Nat.le_refl _) G8.out RB_8.out (.int .i64 2) (.int .i64 v2) (.string ⟨#[]⟩)
    refine bodyPost_ret (v := .agg #[.int .i64 2, .int .i64 v2, .string ⟨#[]⟩]) (results_ndb _ _ w.heap.size _ rfl P.2 rfl) rfl ⟨⟨⟨2, (v2 : Int), ⟨#[]⟩⟩, vg_bit hv2, rfl⟩, ?_, P.1⟩
    exact (((S8.out.set (by omega)).set (by omega)).set (by omega)).more (by omega)
set_option maxHeartbeats 2000000 in
theorem nd_dirs (L n k : Nat) (a : Option Addr) (w : World) (h : SrcSt w L a n k) (hr : ByteRow L w a n) (hk : k ≤ 89000) (hn : n ≤ 1048576) :
    Calls Try.prog 44 #[.pointer (some ⟨L, 0, none⟩)] w fun e w' => (∃ ds a' c', ds.length ≤ 1 ∧ (∀ x ∈ ds, VGood x.v) ∧ e = .returned (.slice a' ds.length c') ∧ w'.ownsRow w.heap.size 86 4 (.slice a' ds.length c') ds.length (diVs ds)) ∧ SrcSt w' L a n (k + 4) ∧ w.grownBy w' (some L) := by
  have S0 : Hid (SrcSt w L a n k) := h
  have R0 : Hid (ByteRow L w a n) := hr
  have G0 : Hid (w.grownBy w (some L)) := grown_refl w _
  have hLw := h.lt
  clear h hr
  go_enter Try.func44, Try.ntmps44
  obtain ⟨U9, hU9⟩ : ∃ U, U = w.alloc (.cells #[] 86) := ⟨_, rfl⟩
  have bU9 : Below w.heap.size w U9 := by rw [hU9]; exact (Below.refl _ _).alloc (Nat.le_refl _) _
  have zU9 : w.heap.size + 1 ≤ U9.heap.size := by rw [hU9]; simp
  have n9a : Hid (U9.heap[w.heap.size]? = some (.cells #[] 86 (0, 0))) := by
    rw [Hid, hU9]
    exact heap_alloc_new _ _
  have S9 : Hid (SrcSt U9 L a n (k)) := S0.out.move (bU9.block L S0.out.lt)
  have R9 : Hid (ByteRow L U9 a n) := R0.out.up (Nat.le_of_lt S0.out.lt) bU9
  have G9 : Hid (w.grownBy U9 (some L)) := grown_below G0.out bU9
  clear S0 R0 G0   bU9 
  have O0 : Hid (U9.ownsRow w.heap.size 86 4 (.slice (some ⟨w.heap.size, 0, none⟩) 0 0) 0 (diVs [])) := own_made hU9 (Nat.le_refl _)
  go_upto_region 2 with fail
  rw [← hU9]
  clear hU9
  have HQ10 : Hid _ := chance_any 7 L n (k) a U9 S9.out R9.out (by omega) hn (by omega) (by omega)
  go_wp2_with fail
  refine Calls.mono HQ10.out ?_
  rintro e w10 ⟨⟨b, rfl⟩, s10, g10⟩
  have zw10 : U9.heap.size ≤ w10.heap.size := g10.size
  have S10 : Hid (SrcSt w10 L a n (k + 1)) := s10
  have R10 : Hid (ByteRow L w10 a n) := row_keep R9.out g10
  have G10 : Hid (w.grownBy w10 (some L)) := grown_trans G9.out g10
  have O0_10 : Hid (World.ownsRow w10 w.heap.size 86 4 (.slice (some ⟨w.heap.size, 0, none⟩) 0 0) 0 (diVs [])) := own_grown O0.out g10 (by omega)
  clear S9 R9 G9  O0 s10 g10 HQ10
  cases b with
  | false =>
    go_wp2_with fail
    go_ret
    exact ⟨⟨[], _, 0, by simp, fun x hx => (by cases hx), rfl, O0_10.out⟩, S10.out.more (by omega), G10.out⟩
  | true =>
    have HQ11 : Hid _ := chance_any 2 L n (k + 1) a w10 S10.out R10.out (by omega) hn (by omega) (by omega)
    go_wp2_with fail
    refine Calls.mono HQ11.out ?_
    rintro e w11 ⟨⟨sk, rfl⟩, s11, g11⟩
    have zw11 : w10.heap.size ≤ w11.heap.size := g11.size
    have S11 : Hid (SrcSt w11 L a n (k + 1 + 1)) := s11
    have R11 : Hid (ByteRow L w11 a n) := row_keep R10.out g11
    have G11 : Hid (w.grownBy w11 (some L)) := grown_trans G10.out g11
    have O0_11 : Hid (World.ownsRow w11 w.heap.size 86 4 (.slice (some ⟨w.heap.size, 0, none⟩) 0 0) 0 (diVs [])) := own_grown O0_10.out g11 (by omega)
    clear S10 R10 G10  O0_10 s11 g11 HQ11
    have HQ12 : Hid _ := nd_bool L n (k + 1 + 1) a w11 S11.out R11.out (by omega) hn
    go_wp2_with fail
    refine Calls.mono HQ12.out ?_
    rintro e w12 ⟨⟨v, hv, rfl⟩, s12, g12⟩
    have zw12 : w11.heap.size ≤ w12.heap.size := g12.size
    have S12 : Hid (SrcSt w12 L a n (k + 1 + 1 + 2)) := s12
    have R12 : Hid (ByteRow L w12 a n) := row_keep R11.out g12
    have G12 : Hid (w.grownBy w12 (some L)) := grown_trans G11.out g12
    have O0_12 : Hid (World.ownsRow w12 w.heap.size 86 4 (.slice (some ⟨w.heap.size, 0, none⟩) 0 0) 0 (diVs [])) := own_grown O0_11.out g12 (by omega)
    clear S11 R11 G11  O0_11 s12 g12 HQ12
    obtain ⟨U, hU⟩ : ∃ U, U = w12.alloc (.cells #[.bool sk, .int .i64 v.k, .int .i64 v.n, .string v.t] 86) := ⟨_, rfl⟩
    have BU : Below w12.heap.size w12 U := by rw [hU]; exact (Below.refl _ _).alloc (Nat.le_refl _) _
    have cU : U.heap[w12.heap.size]? = some (.cells #[.bool sk, .int .i64 v.k, .int .i64 v.n, .string v.t] 86 (0, 0)) := by rw [hU]; exact heap_alloc_new _ _
    have SU : Hid (SrcSt U L a n (k + 1 + 1 + 2)) := S12.out.move (BU.block L S12.out.lt)
    have GU : Hid (w.grownBy U (some L)) := grown_below G12.out BU
    have O5 : U.ownsRow w.heap.size 86 4 (.slice (some ⟨w.heap.size, 0, none⟩) 0 0) 0 (diVs []) := by rw [hU]; exact World.ownsRow.alloc O0_12.out _
    have z5 := GU.out.size
    obtain ⟨ig, hig, hzg, hsg, hbg⟩ := info_dir
    obtain ⟨g8, cap8, W8, hrun, o8, gr8, hat8, hlt8⟩ := run_append_lies (P := Try.prog) U 61 61 w.heap.size 86 ig _ 4 40 Try.underlying61 hig hzg hsg hbg rfl (by decide) (.slice (some ⟨w.heap.size, 0, none⟩) 0 0) 0 (diVs []) O5 ⟨w12.heap.size, 0, none⟩ 1 1 [.bool sk, .int .i64 v.k, .int .i64 v.n, .string v.t] rfl (fun t u ht => by
      rw [add_plain]
      have := row_cell cU (0 + t)
      rw [this, ← ht]
      simp) (fun u hu => by
        simp only [List.mem_cons, List.not_mem_nil, or_false] at hu
        rcases hu with rfl | rfl | rfl | rfl <;> rfl) (by omega) (by unfold maxLen; omega) (by omega) z5 _ rfl
    have O8 : Hid (W8.ownsRow w.heap.size 86 4 (.slice (some ⟨g8, 0, none⟩) 1 cap8) 1 (diVs [⟨sk, v⟩])) := o8
    have S8 : Hid (SrcSt W8 L a n (k + 1 + 1 + 2)) := SU.out.move (gr8.block L SU.out.lt (fun e => by simp only [Value.ownBlock, Option.some.injEq] at e; omega))
    have G8 : Hid (w.grownBy W8 (some L)) := grown_append GU.out gr8 (fun t ht => by simp only [Value.ownBlock, Option.some.injEq] at ht; omega)
    have HRUN : Hid _ := hrun
    have HU : Hid (U = _) := hU
    clear hU hrun o8 gr8 hat8 O5 cU BU O0_12 S12 G12 R12
    go_wp2_with (first | (at_builtin; rw [← HU.out]; refine wpList_append_runR rfl _ _ _ rfl _ _ _ _ rfl rfl HRUN.out ?_) | fail)
    go_ret
    exact ⟨⟨[⟨sk, v⟩], _, cap8, by simp, fun x hx => (by rw [List.mem_singleton.1 hx]; exact hv), rfl, O8.out⟩, S8.out.more (by omega), G8.out⟩
end Go.Proofs.Ytajjaddlalbnmaa
