/- Drawn selections of a node, however deep. (By ndnode.py.) -/
import Derived.Test.YtajjaddlalbnmaaNdSel
namespace Go.Proofs.Ytajjaddlalbnmaa
open Go.ChangeShapes Go.WideShapes Go.ChangeAt Go.RowKit
open Go.Proofs.Ytajjaddlalbnmaa.G (row_cell row_frozen row_set)
set_option linter.unusedVariables false

/-- What one selection takes of the source, and how many it holds. -/
def ndRd : Nat → Nat
  | 0 => 11
  | d + 1 => 12 + 3 * ndRd d
def ndIt : Nat → Nat
  | 0 => 1
  | d + 1 => 1 + 3 * ndIt d
theorem ndIt_pos : ∀ d, 1 + 0 ≤ ndIt d
  | 0 => Nat.le_refl _
  | d + 1 => by simp only [ndIt]; omega
theorem ndRd_min : ∀ d, 11 ≤ ndRd d
  | 0 => Nat.le_refl _
  | d + 1 => by simp only [ndRd]; omega
theorem ndRd_ge : ∀ d, d ≤ ndRd d
  | 0 => Nat.zero_le _
  | d + 1 => by have := ndRd_ge d; simp only [ndRd]; omega
def NodeOk (d : Nat) : Prop := ∀ (L n k : Nat) (a : Option Addr) (w : World), SrcSt w L a n k → ByteRow L w a n → k + 1 + 3 * ndRd d ≤ 89000 → n ≤ 1048576 →
    Calls Try.prog 45 #[.pointer (some ⟨L, 0, none⟩), .int .i64 d] w fun e w' => (∃ (l : Sels) (a' : Option Addr) (c' : Nat) (ws : List Value) (bk : List Nat), (SelsBd 40 l ∧ 1 ≤ l.len ∧ l.len ≤ 3 ∧ l.size ≤ 3 * ndIt d ∧ RowK w.heap.size w' (.slice a' l.len c') l ws bk) ∧ e = .returned (.slice a' l.len c')) ∧ SrcSt w' L a n (k + (1 + 3 * ndRd d)) ∧ w.grownBy w' (some L)
theorem sz_plus : (⟨#[112, 108, 117, 115]⟩ : ByteArray).size ≤ 40 := by decide
theorem sz_by : (⟨#[98, 121]⟩ : ByteArray).size ≤ 40 := by decide
theorem mul_le3 {x y : Nat} (h : x ≤ 3) : x * y ≤ 3 * y := Nat.mul_le_mul_right y h
set_option maxHeartbeats 40000000 in
set_option maxRecDepth 4000 in
theorem nd_node (d : Nat) (hsel : ∀ d', d = d' + 1 → NodeOk d') : NodeOk d := by
  intro L n k a w h hr hk hn
  have S0 : Hid (SrcSt w L a n k) := h
  have R0 : Hid (ByteRow L w a n) := hr
  have hLw := h.lt
  have hmin := ndRd_min d
  have hdle := ndRd_ge d
  clear h hr
  go_enter Try.func45, Try.ntmps45
  obtain ⟨U, hU⟩ : ∃ U, U = w.alloc (.cells #[] 63) := ⟨_, rfl⟩
  have bU : Below w.heap.size w U := by rw [hU]; exact (Below.refl _ _).alloc (Nat.le_refl _) _
  have zU : U.heap.size = w.heap.size + 1 := by rw [hU]; simp
  have SU : Hid (SrcSt U L a n k) := S0.out.move (bU.block L S0.out.lt)
  have GU : Hid (w.grownBy U (some L)) := grown_below (grown_refl _ _) bU
  have RU : Hid (RowK w.heap.size U (.slice (some ⟨w.heap.size, 0, none⟩) 0 0) .nil [] []) := RowK.made hU
  have HQ : Hid _ := next_pos 3 L n k a U SU.out (row_keep R0.out GU.out) (by omega) hn (by omega) (by omega)
  go_upto_region 2 with fail
  rw [← hU]
  clear hU bU S0 SU
  go_wp2_with fail
  refine Calls.mono HQ.out ?_
  rintro e w1 ⟨⟨v, hv, rfl⟩, s1, g1⟩
  have S1 : Hid (SrcSt w1 L a n (k + 1)) := s1
  have G1 : Hid (w.grownBy w1 (some L)) := grown_trans GU.out g1
  have RW : Hid (RowK w.heap.size w1 (.slice (some ⟨w.heap.size, 0, none⟩) 0 0) .nil [] []) := RU.out.grow g1 hLw
  clear s1 g1 HQ RU GU
  go_wp2_with fail
  go_loopw [5, 6] (fun u i w' => ∃ (j : Nat) (g : List (Hd × Sels)) (ws : List Value) (bk : List Nat) (a' : Option Addr) (c' : Nat), u = .slice a' g.length c' ∧ i = .int .i64 j ∧ g.length + j ≤ 3 ∧ 1 ≤ g.length + j ∧ Hid (SrcSt w' L a n (k + 1 + g.length * ndRd d)) ∧ Hid (w.grownBy w' (some L)) ∧ Hid (RowK w.heap.size w' (.slice a' g.length c') (app g .nil) ws bk) ∧ Hid (SelsBd 40 (app g .nil)) ∧ Hid ((app g .nil).size ≤ g.length * ndIt d)) (fun _ i _ => (intOf i).toNat)
  case atStart => exact ⟨1 + v, [], _, _, _, 0, rfl, by go_num, by simp; omega, by simp, by simpa using S1, G1, RW, trivial, Nat.zero_le _⟩
  case round =>
    obtain ⟨j, g, ws, bk, a', c', rfl, rfl, hgj, hgj1, SH, G1, R1, B1, Z1⟩ := hrel
    obtain ⟨wo, rfl⟩ : ∃ z, z = wr := ⟨_, rfl⟩
    have hm3 := mul_le3 (x := g.length) (y := ndRd d) (by omega)
    have hm4 := mul_le3 (x := g.length) (y := ndIt d) (by omega)
    cases j with
    | zero =>
      have hlen : (app g Sels.nil).len = g.length := by rw [app_len]; rfl
      have SE : Hid (SrcSt wo L a n (k + (1 + 3 * ndRd d))) := SH.out.more (by omega)
      go_wp2_with fail
      go_ret
      exact ⟨⟨app g .nil, a', c', ws, bk, ⟨B1.out, by omega, by omega, by have := Z1.out; omega, by rw [hlen]; exact R1.out⟩, by rw [hlen]; rfl⟩, SE.out, G1.out⟩
    | succ j =>
      have hg2 : g.length ≤ 2 := by omega
      have hm5 : g.length * ndRd d ≤ 2 * ndRd d := Nat.mul_le_mul_right _ hg2
      have hj0 : ((j + 1 : Nat) : Int) = (j : Int) + 1 := by omega
      obtain ⟨q, hq⟩ : ∃ q, q = k + 1 + g.length * ndRd d := ⟨_, rfl⟩
      have S0 : Hid (SrcSt wo L a n q) := by rw [hq]; exact SH
      have G0 : Hid (wo.grownBy wo (some L)) := grown_refl _ _
      have R0 : Hid (ByteRow L wo a n) := row_keep R0.out G1.out
      have hwo : w.heap.size ≤ wo.heap.size := G1.out.size
      clear SH
      obtain ⟨U1, hU1⟩ : ∃ U, U = wo.alloc (.cells #[.string ⟨#[105, 100]⟩, .string ⟨#[118, 97, 108, 117, 101]⟩, .string ⟨#[118, 97, 108, 117, 101]⟩, .string ⟨#[95, 95, 116, 121, 112, 101, 110, 97, 109, 101]⟩] 9) := ⟨_, rfl⟩
      have bU1 : Below wo.heap.size wo U1 := by rw [hU1]; exact (Below.refl _ _).alloc (Nat.le_refl _) _
      have zU1 : U1.heap.size = wo.heap.size + 1 := by rw [hU1]; simp
      have nU1 : Hid (U1.heap[wo.heap.size]? = some (.cells #[.string ⟨#[105, 100]⟩, .string ⟨#[118, 97, 108, 117, 101]⟩, .string ⟨#[118, 97, 108, 117, 101]⟩, .string ⟨#[95, 95, 116, 121, 112, 101, 110, 97, 109, 101]⟩] 9 (0, 0))) := by rw [Hid, hU1]; exact heap_alloc_new _ _
      have S1 : Hid (SrcSt U1 L a n (q)) := S0.out.move (bU1.block L S0.out.lt)
      have G1 : Hid (wo.grownBy U1 (some L)) := grown_below G0.out bU1
      have HQ2 : Hid _ := pick_lit [⟨#[105, 100]⟩, ⟨#[118, 97, 108, 117, 101]⟩, ⟨#[118, 97, 108, 117, 101]⟩, ⟨#[95, 95, 116, 121, 112, 101, 110, 97, 109, 101]⟩] (wo.heap.size) 4 L n (q) a U1 S1.out (row_keep R0.out G1.out) (by omega) hn (by decide) (by decide) (by omega) nU1.out
      go_wp2_with fail
      rw [← hU1]
      clear hU1
      refine Calls.mono HQ2.out ?_
      rintro e w2 ⟨⟨nm, hnm, rfl⟩, s2, g2⟩
      have zw2 : U1.heap.size ≤ w2.heap.size := g2.size
      have S2 : Hid (SrcSt w2 L a n (q + 1)) := s2
      have G2 : Hid (wo.grownBy w2 (some L)) := grown_trans G1.out g2
      clear S1 G1
      clear s2 HQ2
      clear nU1 g2
      have bnm : nm.size ≤ 40 := by
        simp only [List.mem_cons, List.not_mem_nil, or_false] at hnm
        rcases hnm with rfl | rfl | rfl | rfl <;> decide
      clear hnm
      obtain ⟨U3, hU3⟩ : ∃ U, U = w2.alloc (.cells #[] 81) := ⟨_, rfl⟩
      have bU3 : Below w2.heap.size w2 U3 := by rw [hU3]; exact (Below.refl _ _).alloc (Nat.le_refl _) _
      have zU3 : U3.heap.size = w2.heap.size + 1 := by rw [hU3]; simp
      have nU3 : Hid (U3.heap[w2.heap.size]? = some (.cells #[] 81 (0, 0))) := by rw [Hid, hU3]; exact heap_alloc_new _ _
      have S3 : Hid (SrcSt U3 L a n (q + 1)) := S2.out.move (bU3.block L S2.out.lt)
      have G3 : Hid (wo.grownBy U3 (some L)) := grown_below G2.out bU3
      clear S2 G2
      have A_3 : Hid (U3.ownsRow w2.heap.size 81 4 (.slice (some ⟨w2.heap.size, 0, none⟩) 0 0) 0 (arVs [])) := own_made hU3 (Nat.le_refl _)
      have HQ4 : Hid _ := nd_dirs L n (q + 1) a U3 S3.out (row_keep R0.out G3.out) (by omega) hn
      go_wp2_with fail
      rw [← hU3]
      clear hU3 nU3
      refine Calls.mono HQ4.out ?_
      rintro e w4 ⟨⟨ds, a4, c4, hds, hdv, rfl, od⟩, s4, g4⟩
      have zw4 : U3.heap.size ≤ w4.heap.size := g4.size
      have S4 : Hid (SrcSt w4 L a n (q + 1 + 4)) := s4
      have G4 : Hid (wo.grownBy w4 (some L)) := grown_trans G3.out g4
      have A_4 : Hid (World.ownsRow w4 w2.heap.size 81 4 (.slice (some ⟨w2.heap.size, 0, none⟩) 0 0) 0 (arVs [])) := own_grown A_3.out g4 (by omega)
      clear S3 G3 A_3
      clear s4 HQ4
      have hodd : ∀ g, (Value.slice a4 ds.length c4).ownBlock = some g → U3.heap.size ≤ g ∧ g < w4.heap.size := fun g hg => World.ownsRow.lt od g hg
      have D_4 : Hid (World.ownsRow w4 U3.heap.size 86 4 (.slice a4 ds.length c4) ds.length (diVs ds)) := od
      clear od g4
      obtain ⟨U5, hU5⟩ : ∃ U, U = w4.alloc (.cells #[] 63) := ⟨_, rfl⟩
      have bU5 : Below w4.heap.size w4 U5 := by rw [hU5]; exact (Below.refl _ _).alloc (Nat.le_refl _) _
      have zU5 : U5.heap.size = w4.heap.size + 1 := by rw [hU5]; simp
      have nU5 : Hid (U5.heap[w4.heap.size]? = some (.cells #[] 63 (0, 0))) := by rw [Hid, hU5]; exact heap_alloc_new _ _
      have S5 : Hid (SrcSt U5 L a n (q + 1 + 4)) := S4.out.move (bU5.block L S4.out.lt)
      have G5 : Hid (wo.grownBy U5 (some L)) := grown_below G4.out bU5
      have A_5 : Hid (World.ownsRow U5 w2.heap.size 81 4 (.slice (some ⟨w2.heap.size, 0, none⟩) 0 0) 0 (arVs [])) := owns_same A_4.out (fun g hg => bU5.block g (World.ownsRow.lt A_4.out g hg).2)
      have D_5 : Hid (World.ownsRow U5 U3.heap.size 86 4 (.slice a4 ds.length c4) ds.length (diVs ds)) := owns_same D_4.out (fun g hg => bU5.block g (World.ownsRow.lt D_4.out g hg).2)
      clear S4 G4 A_4 D_4
      have RK5 := RowK.made hU5
      obtain ⟨U6, hU6⟩ : ∃ U, U = U5.alloc (.cells #[.int .i64 1, .string ⟨#[]⟩, .string nm, .slice (some ⟨w2.heap.size, 0, none⟩) 0 0, .slice a4 ds.length c4, .slice (some ⟨w4.heap.size, 0, none⟩) 0 0] 63) := ⟨_, rfl⟩
      have bU6 : Below U5.heap.size U5 U6 := by rw [hU6]; exact (Below.refl _ _).alloc (Nat.le_refl _) _
      have zU6 : U6.heap.size = U5.heap.size + 1 := by rw [hU6]; simp
      have nU6 : Hid (U6.heap[U5.heap.size]? = some (.cells #[.int .i64 1, .string ⟨#[]⟩, .string nm, .slice (some ⟨w2.heap.size, 0, none⟩) 0 0, .slice a4 ds.length c4, .slice (some ⟨w4.heap.size, 0, none⟩) 0 0] 63 (0, 0))) := by rw [Hid, hU6]; exact heap_alloc_new _ _
      have S6 : Hid (SrcSt U6 L a n (q + 1 + 4)) := S5.out.move (bU6.block L S5.out.lt)
      have G6 : Hid (wo.grownBy U6 (some L)) := grown_below G5.out bU6
      have A_6 : Hid (World.ownsRow U6 w2.heap.size 81 4 (.slice (some ⟨w2.heap.size, 0, none⟩) 0 0) 0 (arVs [])) := owns_same A_5.out (fun g hg => bU6.block g (World.ownsRow.lt A_5.out g hg).2)
      have D_6 : Hid (World.ownsRow U6 U3.heap.size 86 4 (.slice a4 ds.length c4) ds.length (diVs ds)) := owns_same D_5.out (fun g hg => bU6.block g (World.ownsRow.lt D_5.out g hg).2)
      clear S5 G5 A_5 D_5
      have RK6 := RK5.keep bU6.size (fun g hg => bU6.block g (RK5.all g hg).2)
      have ON : OneK wo.heap.size U6 ⟨1, ⟨#[]⟩, nm, [], ds⟩ .nil (.slice (some ⟨w2.heap.size, 0, none⟩) 0 0) (.slice a4 ds.length c4) (.slice (some ⟨w4.heap.size, 0, none⟩) 0 0) [] [] ∧ w4.heap.size + 1 ∉ blk (.slice (some ⟨w2.heap.size, 0, none⟩) 0 0) ++ (blk (.slice a4 ds.length c4) ++ (blk (.slice (some ⟨w4.heap.size, 0, none⟩) 0 0) ++ [])) := by
        have ia : ∀ g ∈ blk (.slice (some ⟨w2.heap.size, 0, none⟩) 0 0), g = w2.heap.size := fun g hg => by simpa [blk, Value.ownBlock] using hg
        have is : ∀ g ∈ blk (.slice (some ⟨w4.heap.size, 0, none⟩) 0 0) ++ [], g = w4.heap.size := fun g hg => by simpa [blk, Value.ownBlock] using hg
        have id : ∀ g ∈ blk (.slice a4 ds.length c4), U3.heap.size ≤ g ∧ g < w4.heap.size := fun g hg => hodd g (blk_mem hg)
        refine ⟨OneK.gen (la := w2.heap.size) (ha := w2.heap.size + 1) (ld := U3.heap.size) (hd := w4.heap.size) (ls := w4.heap.size) (hs := w4.heap.size + 1) (owns_base A_6.out (fun g hg => Nat.zero_le _)) (owns_base D_6.out (fun g hg => Nat.zero_le _)) (owns_base RK6.own (fun g hg => Nat.zero_le _)) RK6.k RK6.nd (fun g hg => by have := ia g hg; omega) id (fun g hg => by have := is g hg; omega) (.inl (by omega)) (.inl (by omega)) (.inl (by omega)) (by omega) (by omega) (by omega) (by omega) (by omega) (by omega), ?_⟩
        intro hN
        rcases List.mem_append.1 hN with hN | hN
        · have := ia _ hN; omega
        · rcases List.mem_append.1 hN with hN | hN
          · have := id _ hN; omega
          · have := is _ hN; omega
      have XY0 : Hid (XS wo.heap.size (w4.heap.size + 1) U6 (1) (⟨#[]⟩) (nm) ([]) (ds) (.nil) (.slice (some ⟨w2.heap.size, 0, none⟩) 0 0) (.slice a4 ds.length c4) (.slice (some ⟨w4.heap.size, 0, none⟩) 0 0)) := ⟨by have := nU6.out; rw [zU5] at this; exact this, ⟨[], [], ON⟩, by omega⟩
      go_upto_region 6 with fail
      rw [← hU5, ← hU6]
      clear hU5 hU6 nU5 nU6 A_6 D_6 ON RK5 RK6 hodd
      have HQ7 : Hid _ := next_pos 9 L n (q + 1 + 4) a U6 S6.out (row_keep R0.out G6.out) (by omega) hn (by omega) (by omega)
      go_wp2_with fail
      refine Calls.mono HQ7.out ?_
      rintro e w7 ⟨⟨v, hv, rfl⟩, s7, g7⟩
      have zw7 : U6.heap.size ≤ w7.heap.size := g7.size
      have S7 : Hid (SrcSt w7 L a n (q + 1 + 4 + 1)) := s7
      have G7 : Hid (wo.grownBy w7 (some L)) := grown_trans G6.out g7
      have X7 : Hid (XS wo.heap.size (w4.heap.size + 1) w7 (1) (⟨#[]⟩) (nm) ([]) (ds) (.nil) (.slice (some ⟨w2.heap.size, 0, none⟩) 0 0) (.slice a4 ds.length c4) (.slice (some ⟨w4.heap.size, 0, none⟩) 0 0)) := XY0.out.grow g7 (by omega)
      clear S6 G6 XY0
      clear s7 HQ7
      clear g7
      have hv9 : v = 0 ∨ v = 1 ∨ v = 2 ∨ v = 3 ∨ v = 4 ∨ v = 5 ∨ v = 6 ∨ v = 7 ∨ v = 8 := by omega
      rcases hv9 with rfl | rfl | rfl | rfl | rfl | rfl | rfl | rfl | rfl
      · by_cases hd0 : 0 < d
        case neg =>
          clear hsel
          obtain ⟨a8, cap8, TW8, ws8, bk8, hrun, TR8, TS8, TG8⟩ := tail_app R1.out hLw G1.out G7.out S7.out X7.out (by omega)
          have HRUN : Hid _ := hrun
          have TR9 : Hid _ := TR8
          have TS9 : Hid _ := TS8
          have TG9 : Hid _ := TG8
          have TB9 : Hid (SelsBd 40 (app (g ++ [((⟨1, ⟨#[]⟩, nm, [], ds⟩ : Hd), Sels.nil)]) .nil)) := sels_snoc (m := 40) (h := (⟨1, ⟨#[]⟩, nm, [], ds⟩ : Hd)) (sub := Sels.nil) ⟨Nat.zero_le _, bnm, Nat.zero_le _, fun x hx => (by cases hx), Nat.le_trans hds (by decide), fun x hx => (hdv x hx).2⟩ (Nat.zero_le _) (trivial) g B1.out
          have TZ9 : Hid ((app (g ++ [((⟨1, ⟨#[]⟩, nm, [], ds⟩ : Hd), Sels.nil)]) .nil).size ≤ (g ++ [((⟨1, ⟨#[]⟩, nm, [], ds⟩ : Hd), Sels.nil)]).length * ndIt d) := by
            rw [Hid, size_snoc, List.length_append, List.length_singleton, Nat.succ_mul]
            have := Z1.out
            have h1 : 1 + (Sels.nil).size ≤ ndIt d := (by simp only [Sels.size]; exact ndIt_pos d)
            omega
          have TS10 : Hid (SrcSt TW8 L a n (k + 1 + (g ++ [((⟨1, ⟨#[]⟩, nm, [], ds⟩ : Hd), Sels.nil)]).length * ndRd d)) := by
            rw [Hid, List.length_append, List.length_singleton, Nat.succ_mul]
            exact SrcSt.more TS9.out (by omega)
          have xk := fun o => row_cell X7.out.x o
          clear hrun TR8 TS8 TG8 B1 Z1 S7 G7 X7 R1 G1 R0 TS9
          go_wp2_with (first | (at_builtin; refine wpList_append_runR rfl _ _ _ rfl _ _ _ _ rfl rfl HRUN.out ?_) | fail)
          exact ⟨⟨j, g ++ [((⟨1, ⟨#[]⟩, nm, [], ds⟩ : Hd), Sels.nil)], _, _, a8, cap8, by rw [List.length_append, List.length_singleton], by go_num, by rw [List.length_append, List.length_singleton]; omega, by rw [List.length_append, List.length_singleton]; omega, TS10, TG9, TR9, TB9, TZ9⟩, by first | (simp [intOf]; done) | (simp [intOf]; omega)⟩
        case pos =>
          obtain ⟨d', hd'⟩ : ∃ d', d = d' + 1 := ⟨d - 1, by omega⟩
          have HS : Hid (NodeOk d') := hsel d' hd'
          have hrd : ndRd d = 12 + 3 * ndRd d' := by rw [hd']; rfl
          have hit : ndIt d = 1 + 3 * ndIt d' := by rw [hd']; rfl
          have hdd : ((d' : Nat) : Int) = (d : Int) - 1 := by omega
          clear hsel hd'
          obtain ⟨U8, hU8⟩ : ∃ U, U = w7.alloc (.cells #[.string ⟨#[110, 101, 120, 116]⟩, .string ⟨#[110, 101, 120, 116]⟩, .string ⟨#[110, 101, 101, 100]⟩] 9) := ⟨_, rfl⟩
          have bU8 : Below w7.heap.size w7 U8 := by rw [hU8]; exact (Below.refl _ _).alloc (Nat.le_refl _) _
          have zU8 : U8.heap.size = w7.heap.size + 1 := by rw [hU8]; simp
          have nU8 : Hid (U8.heap[w7.heap.size]? = some (.cells #[.string ⟨#[110, 101, 120, 116]⟩, .string ⟨#[110, 101, 120, 116]⟩, .string ⟨#[110, 101, 101, 100]⟩] 9 (0, 0))) := by rw [Hid, hU8]; exact heap_alloc_new _ _
          have S8 : Hid (SrcSt U8 L a n (q + 1 + 4 + 1)) := S7.out.move (bU8.block L S7.out.lt)
          have G8 : Hid (wo.grownBy U8 (some L)) := grown_below G7.out bU8
          have X8 : Hid (XS wo.heap.size (w4.heap.size + 1) U8 (1) (⟨#[]⟩) (nm) ([]) (ds) (.nil) (.slice (some ⟨w2.heap.size, 0, none⟩) 0 0) (.slice a4 ds.length c4) (.slice (some ⟨w4.heap.size, 0, none⟩) 0 0)) := X7.out.below (L := L) bU8 (by omega)
          clear S7 G7 X7
          have HQ9 : Hid _ := pick_lit [⟨#[110, 101, 120, 116]⟩, ⟨#[110, 101, 120, 116]⟩, ⟨#[110, 101, 101, 100]⟩] (w7.heap.size) 3 L n (q + 1 + 4 + 1) a U8 S8.out (row_keep R0.out G8.out) (by omega) hn (by decide) (by decide) (by omega) nU8.out
          go_wp2_with fail
          rw [← hU8]
          clear hU8
          refine Calls.mono HQ9.out ?_
          rintro e w9 ⟨⟨n2, hn2, rfl⟩, s9, g9⟩
          have zw9 : U8.heap.size ≤ w9.heap.size := g9.size
          have S9 : Hid (SrcSt w9 L a n (q + 1 + 4 + 1 + 1)) := s9
          have G9 : Hid (wo.grownBy w9 (some L)) := grown_trans G8.out g9
          have X9 : Hid (XS wo.heap.size (w4.heap.size + 1) w9 (1) (⟨#[]⟩) (nm) ([]) (ds) (.nil) (.slice (some ⟨w2.heap.size, 0, none⟩) 0 0) (.slice a4 ds.length c4) (.slice (some ⟨w4.heap.size, 0, none⟩) 0 0)) := X8.out.grow g9 (by omega)
          clear S8 G8 X8
          clear s9 HQ9
          clear nU8 g9
          have bn2 : n2.size ≤ 40 := by
            simp only [List.mem_cons, List.not_mem_nil, or_false] at hn2
            rcases hn2 with rfl | rfl | rfl <;> decide
          clear hn2
          have yx10 := fun o => row_cell X9.out.x o
          have fx10 := fun o => row_frozen X9.out.x o
          obtain ⟨Y10, hY10⟩ : ∃ Y : World, Y = w9.setCell ⟨w4.heap.size + 1, 2, none⟩ (.string n2) := ⟨_, rfl⟩
          have zY10 : w9.heap.size ≤ Y10.heap.size := by rw [hY10]; simp [World.setCell]
          have zy10 : Y10.heap.size ≤ w9.heap.size := by rw [hY10]; simp [World.setCell]
          have zN10 := X9.out.lt
          have S10 : Hid (SrcSt Y10 L a n (q + 1 + 4 + 1 + 1)) := by rw [Hid, hY10]; exact S9.out.set (by omega)
          have G10 : Hid (wo.grownBy Y10 (some L)) := by rw [Hid, hY10]; exact grown_new G9.out X9.out.bN _
          have X10 : Hid (XS wo.heap.size (w4.heap.size + 1) Y10 (1) (⟨#[]⟩) (n2) ([]) (ds) (.nil) (.slice (some ⟨w2.heap.size, 0, none⟩) 0 0) (.slice a4 ds.length c4) (.slice (some ⟨w4.heap.size, 0, none⟩) 0 0)) := by rw [Hid, hY10]; exact X9.out.setNm n2
          go_upto_region 11 with fail
          rw [← hY10]
          clear hY10 yx10 fx10 S9 G9 X9
          have HQ11a := HS.out L n (q + 1 + 4 + 1 + 1) a Y10 S10.out (row_keep R0.out G10.out) (by omega) hn
          rw [hdd] at HQ11a
          have HQ11 : Hid _ := HQ11a
          clear HQ11a
          have yq11 := fun o => row_frozen X10.out.x o
          go_wp2_with fail
          refine Calls.mono HQ11.out ?_
          rintro e w11 ⟨⟨l2, a5, c5, ws5, bk5, ⟨hb5, hl5, hl6, hz5, R5⟩, rfl⟩, s11, g11⟩
          have zw11 : Y10.heap.size ≤ w11.heap.size := g11.size
          have ltN := X10.out.lt
          have Xm : Hid (XS wo.heap.size (w4.heap.size + 1) w11 (1) (⟨#[]⟩) (n2) ([]) (ds) (.nil) (.slice (some ⟨w2.heap.size, 0, none⟩) 0 0) (.slice a4 ds.length c4) (.slice (some ⟨w4.heap.size, 0, none⟩) 0 0)) := X10.out.grow g11 (by omega)
          have fx11 := fun o => row_frozen Xm.out.x o
          have yx11 := fun o => row_cell Xm.out.x o
          clear yq11
          obtain ⟨Y11, hY11⟩ : ∃ Y : World, Y = w11.setCell ⟨w4.heap.size + 1, 5, none⟩ (.slice a5 l2.len c5) := ⟨_, rfl⟩
          have zY11 : w11.heap.size ≤ Y11.heap.size := by rw [hY11]; simp [World.setCell]
          have zy11 : Y11.heap.size ≤ w11.heap.size := by rw [hY11]; simp [World.setCell]
          have S11 : Hid (SrcSt Y11 L a n (q + 1 + 4 + 1 + 1 + (1 + 3 * ndRd d'))) := by rw [Hid, hY11]; exact s11.set (by omega)
          have G11 : Hid (wo.grownBy Y11 (some L)) := by rw [Hid, hY11]; exact grown_new (grown_trans G10.out g11) X10.out.bN _
          have X11 : Hid (XS wo.heap.size (w4.heap.size + 1) Y11 (1) (⟨#[]⟩) (n2) ([]) (ds) (l2) (.slice (some ⟨w2.heap.size, 0, none⟩) 0 0) (.slice a4 ds.length c4) (.slice a5 l2.len c5)) := by rw [Hid, hY11]; exact X10.out.setSub g11 (by omega) R5
          have hb6 : Hid (SelsBd 40 l2) := hb5
          clear R5 s11 g11 HQ11 S10 G10 X10 hb5 Xm
          go_upto_region 23 with fail
          rw [← hY11]
          clear hY11 yx11 fx11
          obtain ⟨a8, cap8, TW8, ws8, bk8, hrun, TR8, TS8, TG8⟩ := tail_app R1.out hLw G1.out G11.out S11.out X11.out (by omega)
          have HRUN : Hid _ := hrun
          have TR9 : Hid _ := TR8
          have TS9 : Hid _ := TS8
          have TG9 : Hid _ := TG8
          have TB9 : Hid (SelsBd 40 (app (g ++ [((⟨1, ⟨#[]⟩, n2, [], ds⟩ : Hd), l2)]) .nil)) := sels_snoc (m := 40) (h := (⟨1, ⟨#[]⟩, n2, [], ds⟩ : Hd)) (sub := l2) ⟨Nat.zero_le _, bn2, Nat.zero_le _, fun x hx => (by cases hx), Nat.le_trans hds (by decide), fun x hx => (hdv x hx).2⟩ ((by omega)) (hb6.out) g B1.out
          have TZ9 : Hid ((app (g ++ [((⟨1, ⟨#[]⟩, n2, [], ds⟩ : Hd), l2)]) .nil).size ≤ (g ++ [((⟨1, ⟨#[]⟩, n2, [], ds⟩ : Hd), l2)]).length * ndIt d) := by
            rw [Hid, size_snoc, List.length_append, List.length_singleton, Nat.succ_mul]
            have := Z1.out
            have h1 : 1 + (l2).size ≤ ndIt d := (by omega)
            omega
          have TS10 : Hid (SrcSt TW8 L a n (k + 1 + (g ++ [((⟨1, ⟨#[]⟩, n2, [], ds⟩ : Hd), l2)]).length * ndRd d)) := by
            rw [Hid, List.length_append, List.length_singleton, Nat.succ_mul]
            exact SrcSt.more TS9.out (by omega)
          have xk := fun o => row_cell X11.out.x o
          clear hrun TR8 TS8 TG8 B1 Z1 S11 G11 X11 R1 G1 R0 TS9
          go_wp2_with (first | (at_builtin; refine wpList_append_runR rfl _ _ _ rfl _ _ _ _ rfl rfl HRUN.out ?_) | fail)
          exact ⟨⟨j, g ++ [((⟨1, ⟨#[]⟩, n2, [], ds⟩ : Hd), l2)], _, _, a8, cap8, by rw [List.length_append, List.length_singleton], by go_num, by rw [List.length_append, List.length_singleton]; omega, by rw [List.length_append, List.length_singleton]; omega, TS10, TG9, TR9, TB9, TZ9⟩, by first | (simp [intOf]; done) | (simp [intOf]; omega)⟩
      · by_cases hd0 : 0 < d
        case neg =>
          clear hsel
          obtain ⟨a8, cap8, TW8, ws8, bk8, hrun, TR8, TS8, TG8⟩ := tail_app R1.out hLw G1.out G7.out S7.out X7.out (by omega)
          have HRUN : Hid _ := hrun
          have TR9 : Hid _ := TR8
          have TS9 : Hid _ := TS8
          have TG9 : Hid _ := TG8
          have TB9 : Hid (SelsBd 40 (app (g ++ [((⟨1, ⟨#[]⟩, nm, [], ds⟩ : Hd), Sels.nil)]) .nil)) := sels_snoc (m := 40) (h := (⟨1, ⟨#[]⟩, nm, [], ds⟩ : Hd)) (sub := Sels.nil) ⟨Nat.zero_le _, bnm, Nat.zero_le _, fun x hx => (by cases hx), Nat.le_trans hds (by decide), fun x hx => (hdv x hx).2⟩ (Nat.zero_le _) (trivial) g B1.out
          have TZ9 : Hid ((app (g ++ [((⟨1, ⟨#[]⟩, nm, [], ds⟩ : Hd), Sels.nil)]) .nil).size ≤ (g ++ [((⟨1, ⟨#[]⟩, nm, [], ds⟩ : Hd), Sels.nil)]).length * ndIt d) := by
            rw [Hid, size_snoc, List.length_append, List.length_singleton, Nat.succ_mul]
            have := Z1.out
            have h1 : 1 + (Sels.nil).size ≤ ndIt d := (by simp only [Sels.size]; exact ndIt_pos d)
            omega
          have TS10 : Hid (SrcSt TW8 L a n (k + 1 + (g ++ [((⟨1, ⟨#[]⟩, nm, [], ds⟩ : Hd), Sels.nil)]).length * ndRd d)) := by
            rw [Hid, List.length_append, List.length_singleton, Nat.succ_mul]
            exact SrcSt.more TS9.out (by omega)
          have xk := fun o => row_cell X7.out.x o
          clear hrun TR8 TS8 TG8 B1 Z1 S7 G7 X7 R1 G1 R0 TS9
          go_wp2_with (first | (at_builtin; refine wpList_append_runR rfl _ _ _ rfl _ _ _ _ rfl rfl HRUN.out ?_) | fail)
          exact ⟨⟨j, g ++ [((⟨1, ⟨#[]⟩, nm, [], ds⟩ : Hd), Sels.nil)], _, _, a8, cap8, by rw [List.length_append, List.length_singleton], by go_num, by rw [List.length_append, List.length_singleton]; omega, by rw [List.length_append, List.length_singleton]; omega, TS10, TG9, TR9, TB9, TZ9⟩, by first | (simp [intOf]; done) | (simp [intOf]; omega)⟩
        case pos =>
          obtain ⟨d', hd'⟩ : ∃ d', d = d' + 1 := ⟨d - 1, by omega⟩
          have HS : Hid (NodeOk d') := hsel d' hd'
          have hrd : ndRd d = 12 + 3 * ndRd d' := by rw [hd']; rfl
          have hit : ndIt d = 1 + 3 * ndIt d' := by rw [hd']; rfl
          have hdd : ((d' : Nat) : Int) = (d : Int) - 1 := by omega
          clear hsel hd'
          obtain ⟨U12, hU12⟩ : ∃ U, U = w7.alloc (.cells #[.string ⟨#[110, 101, 120, 116]⟩, .string ⟨#[110, 101, 120, 116]⟩, .string ⟨#[110, 101, 101, 100]⟩] 9) := ⟨_, rfl⟩
          have bU12 : Below w7.heap.size w7 U12 := by rw [hU12]; exact (Below.refl _ _).alloc (Nat.le_refl _) _
          have zU12 : U12.heap.size = w7.heap.size + 1 := by rw [hU12]; simp
          have nU12 : Hid (U12.heap[w7.heap.size]? = some (.cells #[.string ⟨#[110, 101, 120, 116]⟩, .string ⟨#[110, 101, 120, 116]⟩, .string ⟨#[110, 101, 101, 100]⟩] 9 (0, 0))) := by rw [Hid, hU12]; exact heap_alloc_new _ _
          have S12 : Hid (SrcSt U12 L a n (q + 1 + 4 + 1)) := S7.out.move (bU12.block L S7.out.lt)
          have G12 : Hid (wo.grownBy U12 (some L)) := grown_below G7.out bU12
          have X12 : Hid (XS wo.heap.size (w4.heap.size + 1) U12 (1) (⟨#[]⟩) (nm) ([]) (ds) (.nil) (.slice (some ⟨w2.heap.size, 0, none⟩) 0 0) (.slice a4 ds.length c4) (.slice (some ⟨w4.heap.size, 0, none⟩) 0 0)) := X7.out.below (L := L) bU12 (by omega)
          clear S7 G7 X7
          have HQ13 : Hid _ := pick_lit [⟨#[110, 101, 120, 116]⟩, ⟨#[110, 101, 120, 116]⟩, ⟨#[110, 101, 101, 100]⟩] (w7.heap.size) 3 L n (q + 1 + 4 + 1) a U12 S12.out (row_keep R0.out G12.out) (by omega) hn (by decide) (by decide) (by omega) nU12.out
          go_wp2_with fail
          rw [← hU12]
          clear hU12
          refine Calls.mono HQ13.out ?_
          rintro e w13 ⟨⟨n2, hn2, rfl⟩, s13, g13⟩
          have zw13 : U12.heap.size ≤ w13.heap.size := g13.size
          have S13 : Hid (SrcSt w13 L a n (q + 1 + 4 + 1 + 1)) := s13
          have G13 : Hid (wo.grownBy w13 (some L)) := grown_trans G12.out g13
          have X13 : Hid (XS wo.heap.size (w4.heap.size + 1) w13 (1) (⟨#[]⟩) (nm) ([]) (ds) (.nil) (.slice (some ⟨w2.heap.size, 0, none⟩) 0 0) (.slice a4 ds.length c4) (.slice (some ⟨w4.heap.size, 0, none⟩) 0 0)) := X12.out.grow g13 (by omega)
          clear S12 G12 X12
          clear s13 HQ13
          clear nU12 g13
          have bn2 : n2.size ≤ 40 := by
            simp only [List.mem_cons, List.not_mem_nil, or_false] at hn2
            rcases hn2 with rfl | rfl | rfl <;> decide
          clear hn2
          have yx14 := fun o => row_cell X13.out.x o
          have fx14 := fun o => row_frozen X13.out.x o
          obtain ⟨Y14, hY14⟩ : ∃ Y : World, Y = w13.setCell ⟨w4.heap.size + 1, 2, none⟩ (.string n2) := ⟨_, rfl⟩
          have zY14 : w13.heap.size ≤ Y14.heap.size := by rw [hY14]; simp [World.setCell]
          have zy14 : Y14.heap.size ≤ w13.heap.size := by rw [hY14]; simp [World.setCell]
          have zN14 := X13.out.lt
          have S14 : Hid (SrcSt Y14 L a n (q + 1 + 4 + 1 + 1)) := by rw [Hid, hY14]; exact S13.out.set (by omega)
          have G14 : Hid (wo.grownBy Y14 (some L)) := by rw [Hid, hY14]; exact grown_new G13.out X13.out.bN _
          have X14 : Hid (XS wo.heap.size (w4.heap.size + 1) Y14 (1) (⟨#[]⟩) (n2) ([]) (ds) (.nil) (.slice (some ⟨w2.heap.size, 0, none⟩) 0 0) (.slice a4 ds.length c4) (.slice (some ⟨w4.heap.size, 0, none⟩) 0 0)) := by rw [Hid, hY14]; exact X13.out.setNm n2
          go_upto_region 11 with fail
          rw [← hY14]
          clear hY14 yx14 fx14 S13 G13 X13
          have HQ15a := HS.out L n (q + 1 + 4 + 1 + 1) a Y14 S14.out (row_keep R0.out G14.out) (by omega) hn
          rw [hdd] at HQ15a
          have HQ15 : Hid _ := HQ15a
          clear HQ15a
          have yq15 := fun o => row_frozen X14.out.x o
          go_wp2_with fail
          refine Calls.mono HQ15.out ?_
          rintro e w15 ⟨⟨l2, a5, c5, ws5, bk5, ⟨hb5, hl5, hl6, hz5, R5⟩, rfl⟩, s15, g15⟩
          have zw15 : Y14.heap.size ≤ w15.heap.size := g15.size
          have ltN := X14.out.lt
          have Xm : Hid (XS wo.heap.size (w4.heap.size + 1) w15 (1) (⟨#[]⟩) (n2) ([]) (ds) (.nil) (.slice (some ⟨w2.heap.size, 0, none⟩) 0 0) (.slice a4 ds.length c4) (.slice (some ⟨w4.heap.size, 0, none⟩) 0 0)) := X14.out.grow g15 (by omega)
          have fx15 := fun o => row_frozen Xm.out.x o
          have yx15 := fun o => row_cell Xm.out.x o
          clear yq15
          obtain ⟨Y15, hY15⟩ : ∃ Y : World, Y = w15.setCell ⟨w4.heap.size + 1, 5, none⟩ (.slice a5 l2.len c5) := ⟨_, rfl⟩
          have zY15 : w15.heap.size ≤ Y15.heap.size := by rw [hY15]; simp [World.setCell]
          have zy15 : Y15.heap.size ≤ w15.heap.size := by rw [hY15]; simp [World.setCell]
          have S15 : Hid (SrcSt Y15 L a n (q + 1 + 4 + 1 + 1 + (1 + 3 * ndRd d'))) := by rw [Hid, hY15]; exact s15.set (by omega)
          have G15 : Hid (wo.grownBy Y15 (some L)) := by rw [Hid, hY15]; exact grown_new (grown_trans G14.out g15) X14.out.bN _
          have X15 : Hid (XS wo.heap.size (w4.heap.size + 1) Y15 (1) (⟨#[]⟩) (n2) ([]) (ds) (l2) (.slice (some ⟨w2.heap.size, 0, none⟩) 0 0) (.slice a4 ds.length c4) (.slice a5 l2.len c5)) := by rw [Hid, hY15]; exact X14.out.setSub g15 (by omega) R5
          have hb6 : Hid (SelsBd 40 l2) := hb5
          clear R5 s15 g15 HQ15 S14 G14 X14 hb5 Xm
          go_upto_region 23 with fail
          rw [← hY15]
          clear hY15 yx15 fx15
          obtain ⟨a8, cap8, TW8, ws8, bk8, hrun, TR8, TS8, TG8⟩ := tail_app R1.out hLw G1.out G15.out S15.out X15.out (by omega)
          have HRUN : Hid _ := hrun
          have TR9 : Hid _ := TR8
          have TS9 : Hid _ := TS8
          have TG9 : Hid _ := TG8
          have TB9 : Hid (SelsBd 40 (app (g ++ [((⟨1, ⟨#[]⟩, n2, [], ds⟩ : Hd), l2)]) .nil)) := sels_snoc (m := 40) (h := (⟨1, ⟨#[]⟩, n2, [], ds⟩ : Hd)) (sub := l2) ⟨Nat.zero_le _, bn2, Nat.zero_le _, fun x hx => (by cases hx), Nat.le_trans hds (by decide), fun x hx => (hdv x hx).2⟩ ((by omega)) (hb6.out) g B1.out
          have TZ9 : Hid ((app (g ++ [((⟨1, ⟨#[]⟩, n2, [], ds⟩ : Hd), l2)]) .nil).size ≤ (g ++ [((⟨1, ⟨#[]⟩, n2, [], ds⟩ : Hd), l2)]).length * ndIt d) := by
            rw [Hid, size_snoc, List.length_append, List.length_singleton, Nat.succ_mul]
            have := Z1.out
            have h1 : 1 + (l2).size ≤ ndIt d := (by omega)
            omega
          have TS10 : Hid (SrcSt TW8 L a n (k + 1 + (g ++ [((⟨1, ⟨#[]⟩, n2, [], ds⟩ : Hd), l2)]).length * ndRd d)) := by
            rw [Hid, List.length_append, List.length_singleton, Nat.succ_mul]
            exact SrcSt.more TS9.out (by omega)
          have xk := fun o => row_cell X15.out.x o
          clear hrun TR8 TS8 TG8 B1 Z1 S15 G15 X15 R1 G1 R0 TS9
          go_wp2_with (first | (at_builtin; refine wpList_append_runR rfl _ _ _ rfl _ _ _ _ rfl rfl HRUN.out ?_) | fail)
          exact ⟨⟨j, g ++ [((⟨1, ⟨#[]⟩, n2, [], ds⟩ : Hd), l2)], _, _, a8, cap8, by rw [List.length_append, List.length_singleton], by go_num, by rw [List.length_append, List.length_singleton]; omega, by rw [List.length_append, List.length_singleton]; omega, TS10, TG9, TR9, TB9, TZ9⟩, by first | (simp [intOf]; done) | (simp [intOf]; omega)⟩
      · have yx16 := fun o => row_cell X7.out.x o
        have fx16 := fun o => row_frozen X7.out.x o
        obtain ⟨Y16, hY16⟩ : ∃ Y : World, Y = w7.setCell ⟨w4.heap.size + 1, 2, none⟩ (.string ⟨#[112, 108, 117, 115]⟩) := ⟨_, rfl⟩
        have zY16 : w7.heap.size ≤ Y16.heap.size := by rw [hY16]; simp [World.setCell]
        have zy16 : Y16.heap.size ≤ w7.heap.size := by rw [hY16]; simp [World.setCell]
        have zN16 := X7.out.lt
        have S16 : Hid (SrcSt Y16 L a n (q + 1 + 4 + 1)) := by rw [Hid, hY16]; exact S7.out.set (by omega)
        have G16 : Hid (wo.grownBy Y16 (some L)) := by rw [Hid, hY16]; exact grown_new G7.out X7.out.bN _
        have X16 : Hid (XS wo.heap.size (w4.heap.size + 1) Y16 (1) (⟨#[]⟩) (⟨#[112, 108, 117, 115]⟩) ([]) (ds) (.nil) (.slice (some ⟨w2.heap.size, 0, none⟩) 0 0) (.slice a4 ds.length c4) (.slice (some ⟨w4.heap.size, 0, none⟩) 0 0)) := by rw [Hid, hY16]; exact X7.out.setNm ⟨#[112, 108, 117, 115]⟩
        go_upto_region 14 with fail
        rw [← hY16]
        clear hY16 yx16 fx16 S7 G7 X7
        have HQ17 : Hid _ := nd_value L n (q + 1 + 4 + 1) a Y16 S16.out (row_keep R0.out G16.out) (by omega) hn
        go_wp2_with fail
        refine Calls.mono HQ17.out ?_
        rintro e w17 ⟨⟨va, hva, rfl⟩, s17, g17⟩
        have zw17 : Y16.heap.size ≤ w17.heap.size := g17.size
        have S17 : Hid (SrcSt w17 L a n (q + 1 + 4 + 1 + 2)) := s17
        have G17 : Hid (wo.grownBy w17 (some L)) := grown_trans G16.out g17
        have X17 : Hid (XS wo.heap.size (w4.heap.size + 1) w17 (1) (⟨#[]⟩) (⟨#[112, 108, 117, 115]⟩) ([]) (ds) (.nil) (.slice (some ⟨w2.heap.size, 0, none⟩) 0 0) (.slice a4 ds.length c4) (.slice (some ⟨w4.heap.size, 0, none⟩) 0 0)) := X16.out.grow g17 (by omega)
        clear S16 G16 X16
        clear s17 HQ17
        clear g17
        obtain ⟨U18, hU18⟩ : ∃ U, U = w17.alloc (.cells #[.string ⟨#[98, 121]⟩, .int .i64 va.k, .int .i64 va.n, .string va.t] 81) := ⟨_, rfl⟩
        have bU18 : Below w17.heap.size w17 U18 := by rw [hU18]; exact (Below.refl _ _).alloc (Nat.le_refl _) _
        have zU18 : U18.heap.size = w17.heap.size + 1 := by rw [hU18]; simp
        have oA18 : U18.ownsRow w17.heap.size 81 4 (.slice (some ⟨w17.heap.size, 0, none⟩) 1 1) ([(⟨⟨#[98, 121]⟩, va⟩ : Ar)] : List Ar).length (arVs [(⟨⟨#[98, 121]⟩, va⟩ : Ar)]) := by
          rw [hU18]
          exact ⟨rfl, .inr ⟨w17.heap.size, 1, _, rfl, Nat.le_refl _, heap_alloc_new _ _, Nat.le_refl _, by unfold maxLen; omega, rfl, rfl⟩⟩
        have ltN := X17.out.lt
        have Xm : Hid (XS wo.heap.size (w4.heap.size + 1) U18 (1) (⟨#[]⟩) (⟨#[112, 108, 117, 115]⟩) ([]) (ds) (.nil) (.slice (some ⟨w2.heap.size, 0, none⟩) 0 0) (.slice a4 ds.length c4) (.slice (some ⟨w4.heap.size, 0, none⟩) 0 0)) := X17.out.below (L := L) bU18 (by omega)
        have fx18 := fun o => row_frozen Xm.out.x o
        have yx18 := fun o => row_cell Xm.out.x o
        obtain ⟨Y18, hY18⟩ : ∃ Y : World, Y = U18.setCell ⟨w4.heap.size + 1, 3, none⟩ (.slice (some ⟨w17.heap.size, 0, none⟩) 1 1) := ⟨_, rfl⟩
        have zY18 : U18.heap.size ≤ Y18.heap.size := by rw [hY18]; simp [World.setCell]
        have zy18 : Y18.heap.size ≤ U18.heap.size := by rw [hY18]; simp [World.setCell]
        have S18 : Hid (SrcSt Y18 L a n (q + 1 + 4 + 1 + 2)) := by rw [Hid, hY18]; exact (S17.out.move (bU18.block L S17.out.lt)).set (by omega)
        have G18 : Hid (wo.grownBy Y18 (some L)) := by rw [Hid, hY18]; exact grown_new (grown_below G17.out bU18) X17.out.bN _
        have X18 : Hid (XS wo.heap.size (w4.heap.size + 1) Y18 (1) (⟨#[]⟩) (⟨#[112, 108, 117, 115]⟩) ([(⟨⟨#[98, 121]⟩, va⟩ : Ar)]) (ds) (.nil) (.slice (some ⟨w17.heap.size, 0, none⟩) 1 1) (.slice a4 ds.length c4) (.slice (some ⟨w4.heap.size, 0, none⟩) 0 0)) := by rw [Hid, hY18]; exact X17.out.setArgs (L := L) (grown_below (grown_refl _ _) bU18) (by omega) oA18
        rw [hU18] at fx18 yx18
        go_upto_region 15 with fail
        rw [← World.setCell_alloc_past _ _ _ _ ltN, ← hU18, ← hY18]
        clear hY18 hU18 yx18 fx18 S17 G17 X17 Xm oA18 bU18
        obtain ⟨U19, hU19⟩ : ∃ U, U = Y18.alloc (.cells #[.string ⟨#[]⟩, .string ⟨#[115, 117, 109]⟩, .string ⟨#[109, 111, 114, 101]⟩] 9) := ⟨_, rfl⟩
        have bU19 : Below Y18.heap.size Y18 U19 := by rw [hU19]; exact (Below.refl _ _).alloc (Nat.le_refl _) _
        have zU19 : U19.heap.size = Y18.heap.size + 1 := by rw [hU19]; simp
        have nU19 : Hid (U19.heap[Y18.heap.size]? = some (.cells #[.string ⟨#[]⟩, .string ⟨#[115, 117, 109]⟩, .string ⟨#[109, 111, 114, 101]⟩] 9 (0, 0))) := by rw [Hid, hU19]; exact heap_alloc_new _ _
        have S19 : Hid (SrcSt U19 L a n (q + 1 + 4 + 1 + 2)) := S18.out.move (bU19.block L S18.out.lt)
        have G19 : Hid (wo.grownBy U19 (some L)) := grown_below G18.out bU19
        have X19 : Hid (XS wo.heap.size (w4.heap.size + 1) U19 (1) (⟨#[]⟩) (⟨#[112, 108, 117, 115]⟩) ([(⟨⟨#[98, 121]⟩, va⟩ : Ar)]) (ds) (.nil) (.slice (some ⟨w17.heap.size, 0, none⟩) 1 1) (.slice a4 ds.length c4) (.slice (some ⟨w4.heap.size, 0, none⟩) 0 0)) := X18.out.below (L := L) bU19 (by omega)
        clear S18 G18 X18
        have HQ20 : Hid _ := pick_lit [⟨#[]⟩, ⟨#[115, 117, 109]⟩, ⟨#[109, 111, 114, 101]⟩] (Y18.heap.size) 3 L n (q + 1 + 4 + 1 + 2) a U19 S19.out (row_keep R0.out G19.out) (by omega) hn (by decide) (by decide) (by omega) nU19.out
        go_wp2_with fail
        rw [← hU19]
        clear hU19
        refine Calls.mono HQ20.out ?_
        rintro e w20 ⟨⟨n3, hn3, rfl⟩, s20, g20⟩
        have zw20 : U19.heap.size ≤ w20.heap.size := g20.size
        have S20 : Hid (SrcSt w20 L a n (q + 1 + 4 + 1 + 2 + 1)) := s20
        have G20 : Hid (wo.grownBy w20 (some L)) := grown_trans G19.out g20
        have X20 : Hid (XS wo.heap.size (w4.heap.size + 1) w20 (1) (⟨#[]⟩) (⟨#[112, 108, 117, 115]⟩) ([(⟨⟨#[98, 121]⟩, va⟩ : Ar)]) (ds) (.nil) (.slice (some ⟨w17.heap.size, 0, none⟩) 1 1) (.slice a4 ds.length c4) (.slice (some ⟨w4.heap.size, 0, none⟩) 0 0)) := X19.out.grow g20 (by omega)
        clear S19 G19 X19
        clear s20 HQ20
        clear nU19 g20
        have bn3 : n3.size ≤ 40 := by
          simp only [List.mem_cons, List.not_mem_nil, or_false] at hn3
          rcases hn3 with rfl | rfl | rfl <;> decide
        clear hn3
        have yx21 := fun o => row_cell X20.out.x o
        have fx21 := fun o => row_frozen X20.out.x o
        obtain ⟨Y21, hY21⟩ : ∃ Y : World, Y = w20.setCell ⟨w4.heap.size + 1, 1, none⟩ (.string n3) := ⟨_, rfl⟩
        have zY21 : w20.heap.size ≤ Y21.heap.size := by rw [hY21]; simp [World.setCell]
        have zy21 : Y21.heap.size ≤ w20.heap.size := by rw [hY21]; simp [World.setCell]
        have zN21 := X20.out.lt
        have S21 : Hid (SrcSt Y21 L a n (q + 1 + 4 + 1 + 2 + 1)) := by rw [Hid, hY21]; exact S20.out.set (by omega)
        have G21 : Hid (wo.grownBy Y21 (some L)) := by rw [Hid, hY21]; exact grown_new G20.out X20.out.bN _
        have X21 : Hid (XS wo.heap.size (w4.heap.size + 1) Y21 (1) (n3) (⟨#[112, 108, 117, 115]⟩) ([(⟨⟨#[98, 121]⟩, va⟩ : Ar)]) (ds) (.nil) (.slice (some ⟨w17.heap.size, 0, none⟩) 1 1) (.slice a4 ds.length c4) (.slice (some ⟨w4.heap.size, 0, none⟩) 0 0)) := by rw [Hid, hY21]; exact X20.out.setAl n3
        go_upto_region 23 with fail
        rw [← hY21]
        clear hY21 yx21 fx21 S20 G20 X20
        obtain ⟨a8, cap8, TW8, ws8, bk8, hrun, TR8, TS8, TG8⟩ := tail_app R1.out hLw G1.out G21.out S21.out X21.out (by omega)
        have HRUN : Hid _ := hrun
        have TR9 : Hid _ := TR8
        have TS9 : Hid _ := TS8
        have TG9 : Hid _ := TG8
        have TB9 : Hid (SelsBd 40 (app (g ++ [((⟨1, n3, ⟨#[112, 108, 117, 115]⟩, [(⟨⟨#[98, 121]⟩, va⟩ : Ar)], ds⟩ : Hd), Sels.nil)]) .nil)) := sels_snoc (m := 40) (h := (⟨1, n3, ⟨#[112, 108, 117, 115]⟩, [(⟨⟨#[98, 121]⟩, va⟩ : Ar)], ds⟩ : Hd)) (sub := Sels.nil) ⟨bn3, sz_plus, (by simp), fun x hx => (by rw [List.mem_singleton.1 hx]; exact ⟨sz_by, hva.2⟩), Nat.le_trans hds (by decide), fun x hx => (hdv x hx).2⟩ (Nat.zero_le _) (trivial) g B1.out
        have TZ9 : Hid ((app (g ++ [((⟨1, n3, ⟨#[112, 108, 117, 115]⟩, [(⟨⟨#[98, 121]⟩, va⟩ : Ar)], ds⟩ : Hd), Sels.nil)]) .nil).size ≤ (g ++ [((⟨1, n3, ⟨#[112, 108, 117, 115]⟩, [(⟨⟨#[98, 121]⟩, va⟩ : Ar)], ds⟩ : Hd), Sels.nil)]).length * ndIt d) := by
          rw [Hid, size_snoc, List.length_append, List.length_singleton, Nat.succ_mul]
          have := Z1.out
          have h1 : 1 + (Sels.nil).size ≤ ndIt d := (by simp only [Sels.size]; exact ndIt_pos d)
          omega
        have TS10 : Hid (SrcSt TW8 L a n (k + 1 + (g ++ [((⟨1, n3, ⟨#[112, 108, 117, 115]⟩, [(⟨⟨#[98, 121]⟩, va⟩ : Ar)], ds⟩ : Hd), Sels.nil)]).length * ndRd d)) := by
          rw [Hid, List.length_append, List.length_singleton, Nat.succ_mul]
          exact SrcSt.more TS9.out (by omega)
        have xk := fun o => row_cell X21.out.x o
        clear hrun TR8 TS8 TG8 B1 Z1 S21 G21 X21 R1 G1 R0 TS9
        go_wp2_with (first | (at_builtin; refine wpList_append_runR rfl _ _ _ rfl _ _ _ _ rfl rfl HRUN.out ?_) | fail)
        exact ⟨⟨j, g ++ [((⟨1, n3, ⟨#[112, 108, 117, 115]⟩, [(⟨⟨#[98, 121]⟩, va⟩ : Ar)], ds⟩ : Hd), Sels.nil)], _, _, a8, cap8, by rw [List.length_append, List.length_singleton], by go_num, by rw [List.length_append, List.length_singleton]; omega, by rw [List.length_append, List.length_singleton]; omega, TS10, TG9, TR9, TB9, TZ9⟩, by first | (simp [intOf]; done) | (simp [intOf]; omega)⟩
      · by_cases hd0 : 0 < d
        case neg =>
          clear hsel
          obtain ⟨a8, cap8, TW8, ws8, bk8, hrun, TR8, TS8, TG8⟩ := tail_app R1.out hLw G1.out G7.out S7.out X7.out (by omega)
          have HRUN : Hid _ := hrun
          have TR9 : Hid _ := TR8
          have TS9 : Hid _ := TS8
          have TG9 : Hid _ := TG8
          have TB9 : Hid (SelsBd 40 (app (g ++ [((⟨1, ⟨#[]⟩, nm, [], ds⟩ : Hd), Sels.nil)]) .nil)) := sels_snoc (m := 40) (h := (⟨1, ⟨#[]⟩, nm, [], ds⟩ : Hd)) (sub := Sels.nil) ⟨Nat.zero_le _, bnm, Nat.zero_le _, fun x hx => (by cases hx), Nat.le_trans hds (by decide), fun x hx => (hdv x hx).2⟩ (Nat.zero_le _) (trivial) g B1.out
          have TZ9 : Hid ((app (g ++ [((⟨1, ⟨#[]⟩, nm, [], ds⟩ : Hd), Sels.nil)]) .nil).size ≤ (g ++ [((⟨1, ⟨#[]⟩, nm, [], ds⟩ : Hd), Sels.nil)]).length * ndIt d) := by
            rw [Hid, size_snoc, List.length_append, List.length_singleton, Nat.succ_mul]
            have := Z1.out
            have h1 : 1 + (Sels.nil).size ≤ ndIt d := (by simp only [Sels.size]; exact ndIt_pos d)
            omega
          have TS10 : Hid (SrcSt TW8 L a n (k + 1 + (g ++ [((⟨1, ⟨#[]⟩, nm, [], ds⟩ : Hd), Sels.nil)]).length * ndRd d)) := by
            rw [Hid, List.length_append, List.length_singleton, Nat.succ_mul]
            exact SrcSt.more TS9.out (by omega)
          have xk := fun o => row_cell X7.out.x o
          clear hrun TR8 TS8 TG8 B1 Z1 S7 G7 X7 R1 G1 R0 TS9
          go_wp2_with (first | (at_builtin; refine wpList_append_runR rfl _ _ _ rfl _ _ _ _ rfl rfl HRUN.out ?_) | fail)
          exact ⟨⟨j, g ++ [((⟨1, ⟨#[]⟩, nm, [], ds⟩ : Hd), Sels.nil)], _, _, a8, cap8, by rw [List.length_append, List.length_singleton], by go_num, by rw [List.length_append, List.length_singleton]; omega, by rw [List.length_append, List.length_singleton]; omega, TS10, TG9, TR9, TB9, TZ9⟩, by first | (simp [intOf]; done) | (simp [intOf]; omega)⟩
        case pos =>
          obtain ⟨d', hd'⟩ : ∃ d', d = d' + 1 := ⟨d - 1, by omega⟩
          have HS : Hid (NodeOk d') := hsel d' hd'
          have hrd : ndRd d = 12 + 3 * ndRd d' := by rw [hd']; rfl
          have hit : ndIt d = 1 + 3 * ndIt d' := by rw [hd']; rfl
          have hdd : ((d' : Nat) : Int) = (d : Int) - 1 := by omega
          clear hsel hd'
          have hNlt := X7.out.lt
          obtain ⟨U22, hU22⟩ : ∃ U, U = w7.alloc (.cells #[.string ⟨#[]⟩, .string ⟨#[78, 111, 100, 101]⟩, .string ⟨#[78, 111, 100, 101]⟩, .string ⟨#[81, 117, 101, 114, 121]⟩] 9) := ⟨_, rfl⟩
          have bU22 : Below w7.heap.size w7 U22 := by rw [hU22]; exact (Below.refl _ _).alloc (Nat.le_refl _) _
          have zU22 : U22.heap.size = w7.heap.size + 1 := by rw [hU22]; simp
          have nU22 : Hid (U22.heap[w7.heap.size]? = some (.cells #[.string ⟨#[]⟩, .string ⟨#[78, 111, 100, 101]⟩, .string ⟨#[78, 111, 100, 101]⟩, .string ⟨#[81, 117, 101, 114, 121]⟩] 9 (0, 0))) := by rw [Hid, hU22]; exact heap_alloc_new _ _
          have S22 : Hid (SrcSt U22 L a n (q + 1 + 4 + 1)) := S7.out.move (bU22.block L S7.out.lt)
          have G22 : Hid (wo.grownBy U22 (some L)) := grown_below G7.out bU22
          have X22 : Hid (XS wo.heap.size (w4.heap.size + 1) U22 (1) (⟨#[]⟩) (nm) ([]) (ds) (.nil) (.slice (some ⟨w2.heap.size, 0, none⟩) 0 0) (.slice a4 ds.length c4) (.slice (some ⟨w4.heap.size, 0, none⟩) 0 0)) := X7.out.below (L := L) bU22 (by omega)
          clear S7 G7 X7
          have HQ23 : Hid _ := pick_lit [⟨#[]⟩, ⟨#[78, 111, 100, 101]⟩, ⟨#[78, 111, 100, 101]⟩, ⟨#[81, 117, 101, 114, 121]⟩] (w7.heap.size) 4 L n (q + 1 + 4 + 1) a U22 S22.out (row_keep R0.out G22.out) (by omega) hn (by decide) (by decide) (by omega) nU22.out
          go_wp2_with fail
          rw [← hU22]
          clear hU22
          refine Calls.mono HQ23.out ?_
          rintro e w23 ⟨⟨n4, hn4, rfl⟩, s23, g23⟩
          have zw23 : U22.heap.size ≤ w23.heap.size := g23.size
          have S23 : Hid (SrcSt w23 L a n (q + 1 + 4 + 1 + 1)) := s23
          have G23 : Hid (wo.grownBy w23 (some L)) := grown_trans G22.out g23
          have X23 : Hid (XS wo.heap.size (w4.heap.size + 1) w23 (1) (⟨#[]⟩) (nm) ([]) (ds) (.nil) (.slice (some ⟨w2.heap.size, 0, none⟩) 0 0) (.slice a4 ds.length c4) (.slice (some ⟨w4.heap.size, 0, none⟩) 0 0)) := X22.out.grow g23 (by omega)
          clear S22 G22 X22
          clear s23 HQ23
          clear nU22 g23
          have bn4 : n4.size ≤ 40 := by
            simp only [List.mem_cons, List.not_mem_nil, or_false] at hn4
            rcases hn4 with rfl | rfl | rfl | rfl <;> decide
          clear hn4
          obtain ⟨U24, hU24⟩ : ∃ U, U = w23.alloc (.cells #[] 81) := ⟨_, rfl⟩
          have bU24 : Below w23.heap.size w23 U24 := by rw [hU24]; exact (Below.refl _ _).alloc (Nat.le_refl _) _
          have zU24 : U24.heap.size = w23.heap.size + 1 := by rw [hU24]; simp
          have nU24 : Hid (U24.heap[w23.heap.size]? = some (.cells #[] 81 (0, 0))) := by rw [Hid, hU24]; exact heap_alloc_new _ _
          have S24 : Hid (SrcSt U24 L a n (q + 1 + 4 + 1 + 1)) := S23.out.move (bU24.block L S23.out.lt)
          have G24 : Hid (wo.grownBy U24 (some L)) := grown_below G23.out bU24
          have X24 : Hid (XS wo.heap.size (w4.heap.size + 1) U24 (1) (⟨#[]⟩) (nm) ([]) (ds) (.nil) (.slice (some ⟨w2.heap.size, 0, none⟩) 0 0) (.slice a4 ds.length c4) (.slice (some ⟨w4.heap.size, 0, none⟩) 0 0)) := X23.out.below (L := L) bU24 (by omega)
          clear S23 G23 X23
          have A_24 : Hid (U24.ownsRow w23.heap.size 81 4 (.slice (some ⟨w23.heap.size, 0, none⟩) 0 0) 0 (arVs [])) := own_made hU24 (Nat.le_refl _)
          have HQ25 : Hid _ := nd_dirs L n (q + 1 + 4 + 1 + 1) a U24 S24.out (row_keep R0.out G24.out) (by omega) hn
          go_wp2_with fail
          rw [← hU24]
          clear hU24 nU24
          refine Calls.mono HQ25.out ?_
          rintro e w25 ⟨⟨d2, a6, c6, hds2, hdv2, rfl, od⟩, s25, g25⟩
          have zw25 : U24.heap.size ≤ w25.heap.size := g25.size
          have S25 : Hid (SrcSt w25 L a n (q + 1 + 4 + 1 + 1 + 4)) := s25
          have G25 : Hid (wo.grownBy w25 (some L)) := grown_trans G24.out g25
          have X25 : Hid (XS wo.heap.size (w4.heap.size + 1) w25 (1) (⟨#[]⟩) (nm) ([]) (ds) (.nil) (.slice (some ⟨w2.heap.size, 0, none⟩) 0 0) (.slice a4 ds.length c4) (.slice (some ⟨w4.heap.size, 0, none⟩) 0 0)) := X24.out.grow g25 (by omega)
          have A_25 : Hid (World.ownsRow w25 w23.heap.size 81 4 (.slice (some ⟨w23.heap.size, 0, none⟩) 0 0) 0 (arVs [])) := own_grown A_24.out g25 (by omega)
          clear S24 G24 X24 A_24
          clear s25 HQ25
          have hodd : ∀ g, (Value.slice a6 d2.length c6).ownBlock = some g → U24.heap.size ≤ g ∧ g < w25.heap.size := fun g hg => World.ownsRow.lt od g hg
          have D_25 : Hid (World.ownsRow w25 U24.heap.size 86 4 (.slice a6 d2.length c6) d2.length (diVs d2)) := od
          clear od g25
          have HQ26 : Hid _ := (by have := HS.out L n (q + 1 + 4 + 1 + 1 + 4) a w25 S25.out (row_keep R0.out G25.out) (by omega) hn; rw [hdd] at this; exact this)
          go_wp2_with fail
          refine Calls.mono HQ26.out ?_
          rintro e w26 ⟨⟨l2, a5, c5, ws5, bk5, ⟨hb5, hl5, hl6, hz5, R5⟩, rfl⟩, s26, g26⟩
          have zw26 : w25.heap.size ≤ w26.heap.size := g26.size
          have S26 : Hid (SrcSt w26 L a n (q + 1 + 4 + 1 + 1 + 4 + (1 + 3 * ndRd d'))) := s26
          have G26 : Hid (wo.grownBy w26 (some L)) := grown_trans G25.out g26
          have X26 : Hid (XS wo.heap.size (w4.heap.size + 1) w26 (1) (⟨#[]⟩) (nm) ([]) (ds) (.nil) (.slice (some ⟨w2.heap.size, 0, none⟩) 0 0) (.slice a4 ds.length c4) (.slice (some ⟨w4.heap.size, 0, none⟩) 0 0)) := X25.out.grow g26 (by omega)
          have A_26 : Hid (World.ownsRow w26 w23.heap.size 81 4 (.slice (some ⟨w23.heap.size, 0, none⟩) 0 0) 0 (arVs [])) := own_grown A_25.out g26 (by omega)
          have D_26 : Hid (World.ownsRow w26 U24.heap.size 86 4 (.slice a6 d2.length c6) d2.length (diVs d2)) := own_grown D_25.out g26 (by omega)
          clear S25 G25 X25 A_25 D_25
          clear s26 HQ26
          have hb6 : Hid (SelsBd 40 l2) := hb5
          clear g26 hb5
          have ltN := X26.out.lt
          have ltM : w4.heap.size + 1 < w23.heap.size := by omega
          have bN0 := X26.out.bN
          have ON : OneK wo.heap.size w26 ⟨3, ⟨#[]⟩, n4, [], d2⟩ l2 (.slice (some ⟨w23.heap.size, 0, none⟩) 0 0) (.slice a6 d2.length c6) (.slice a5 l2.len c5) ws5 bk5 ∧ w4.heap.size + 1 ∉ blk (.slice (some ⟨w23.heap.size, 0, none⟩) 0 0) ++ (blk (.slice a6 d2.length c6) ++ (blk (.slice a5 l2.len c5) ++ bk5)) := by
            have ia : ∀ g ∈ blk (.slice (some ⟨w23.heap.size, 0, none⟩) 0 0), g = w23.heap.size := fun g hg => by simpa [blk, Value.ownBlock] using hg
            have is : ∀ g ∈ blk (.slice a5 l2.len c5) ++ bk5, w25.heap.size ≤ g ∧ g < w26.heap.size := fun g hg => R5.all g hg
            have id : ∀ g ∈ blk (.slice a6 d2.length c6), U24.heap.size ≤ g ∧ g < w25.heap.size := fun g hg => hodd g (blk_mem hg)
            refine ⟨OneK.gen (la := w23.heap.size) (ha := w23.heap.size + 1) (ld := U24.heap.size) (hd := w25.heap.size) (ls := w25.heap.size) (hs := w26.heap.size) (owns_base A_26.out (fun g hg => Nat.zero_le _)) (owns_base D_26.out (fun g hg => Nat.zero_le _)) (owns_base R5.own (fun g hg => Nat.zero_le _)) R5.k R5.nd (fun g hg => by have := ia g hg; omega) id is (.inl (by omega)) (.inl (by omega)) (.inl (by omega)) (by omega) (by omega) (by omega) (by omega) (by omega) (by omega), ?_⟩
            intro hN
            rcases List.mem_append.1 hN with hN | hN
            · have := ia _ hN; omega
            · rcases List.mem_append.1 hN with hN | hN
              · have := id _ hN; omega
              · have := is _ hN; omega
          have yx27 := fun o => row_cell X26.out.x o
          have fx27 := fun o => row_frozen X26.out.x o
          obtain ⟨Y27, hY27⟩ : ∃ Y : World, Y = put6N w26 (w4.heap.size + 1) (.int .i64 3) (.string ⟨#[]⟩) (.string n4) (.slice (some ⟨w23.heap.size, 0, none⟩) 0 0) (.slice a6 d2.length c6) (.slice a5 l2.len c5) := ⟨_, rfl⟩
          have zY27 : w26.heap.size ≤ Y27.heap.size := by rw [hY27]; exact Nat.le_of_eq (put6N_size _ _ _ _ _ _ _ _).symm
          have zy27 : Y27.heap.size ≤ w26.heap.size := by rw [hY27]; exact Nat.le_of_eq (put6N_size _ _ _ _ _ _ _ _)
          have S27 : Hid (SrcSt Y27 L a n (q + 1 + 4 + 1 + 1 + 4 + (1 + 3 * ndRd d'))) := by rw [Hid, hY27]; exact S26.out.put6N (by omega) _ _ _ _ _ _
          have G27 : Hid (wo.grownBy Y27 (some L)) := by rw [Hid, hY27]; exact grown_put6 G26.out (by omega) _ _ _ _ _ _
          have X27 : Hid (XS wo.heap.size (w4.heap.size + 1) Y27 (3) (⟨#[]⟩) (n4) ([]) (d2) (l2) (.slice (some ⟨w23.heap.size, 0, none⟩) 0 0) (.slice a6 d2.length c6) (.slice a5 l2.len c5)) := by rw [Hid, hY27]; exact XS.all6 X26.out.x ON.1 ON.2 (by omega)
          go_upto_region 23 with fail
          unfold put6N at hY27
          rw [← hY27]
          clear hY27  yx27 fx27 A_26 D_26 S26 G26 X26 ON R5 hodd
          obtain ⟨a8, cap8, TW8, ws8, bk8, hrun, TR8, TS8, TG8⟩ := tail_app R1.out hLw G1.out G27.out S27.out X27.out (by omega)
          have HRUN : Hid _ := hrun
          have TR9 : Hid _ := TR8
          have TS9 : Hid _ := TS8
          have TG9 : Hid _ := TG8
          have TB9 : Hid (SelsBd 40 (app (g ++ [((⟨3, ⟨#[]⟩, n4, [], d2⟩ : Hd), l2)]) .nil)) := sels_snoc (m := 40) (h := (⟨3, ⟨#[]⟩, n4, [], d2⟩ : Hd)) (sub := l2) ⟨Nat.zero_le _, bn4, Nat.zero_le _, fun x hx => (by cases hx), Nat.le_trans hds2 (by decide), fun x hx => (hdv2 x hx).2⟩ ((by omega)) (hb6.out) g B1.out
          have TZ9 : Hid ((app (g ++ [((⟨3, ⟨#[]⟩, n4, [], d2⟩ : Hd), l2)]) .nil).size ≤ (g ++ [((⟨3, ⟨#[]⟩, n4, [], d2⟩ : Hd), l2)]).length * ndIt d) := by
            rw [Hid, size_snoc, List.length_append, List.length_singleton, Nat.succ_mul]
            have := Z1.out
            have h1 : 1 + (l2).size ≤ ndIt d := (by omega)
            omega
          have TS10 : Hid (SrcSt TW8 L a n (k + 1 + (g ++ [((⟨3, ⟨#[]⟩, n4, [], d2⟩ : Hd), l2)]).length * ndRd d)) := by
            rw [Hid, List.length_append, List.length_singleton, Nat.succ_mul]
            exact SrcSt.more TS9.out (by omega)
          have xk := fun o => row_cell X27.out.x o
          clear hrun TR8 TS8 TG8 B1 Z1 S27 G27 X27 R1 G1 R0 TS9
          go_wp2_with (first | (at_builtin; refine wpList_append_runR rfl _ _ _ rfl _ _ _ _ rfl rfl HRUN.out ?_) | fail)
          exact ⟨⟨j, g ++ [((⟨3, ⟨#[]⟩, n4, [], d2⟩ : Hd), l2)], _, _, a8, cap8, by rw [List.length_append, List.length_singleton], by go_num, by rw [List.length_append, List.length_singleton]; omega, by rw [List.length_append, List.length_singleton]; omega, TS10, TG9, TR9, TB9, TZ9⟩, by first | (simp [intOf]; done) | (simp [intOf]; omega)⟩
      · have hNlt := X7.out.lt
        obtain ⟨U28, hU28⟩ : ∃ U, U = w7.alloc (.cells #[.string ⟨#[102]⟩, .string ⟨#[103]⟩] 9) := ⟨_, rfl⟩
        have bU28 : Below w7.heap.size w7 U28 := by rw [hU28]; exact (Below.refl _ _).alloc (Nat.le_refl _) _
        have zU28 : U28.heap.size = w7.heap.size + 1 := by rw [hU28]; simp
        have nU28 : Hid (U28.heap[w7.heap.size]? = some (.cells #[.string ⟨#[102]⟩, .string ⟨#[103]⟩] 9 (0, 0))) := by rw [Hid, hU28]; exact heap_alloc_new _ _
        have S28 : Hid (SrcSt U28 L a n (q + 1 + 4 + 1)) := S7.out.move (bU28.block L S7.out.lt)
        have G28 : Hid (wo.grownBy U28 (some L)) := grown_below G7.out bU28
        have X28 : Hid (XS wo.heap.size (w4.heap.size + 1) U28 (1) (⟨#[]⟩) (nm) ([]) (ds) (.nil) (.slice (some ⟨w2.heap.size, 0, none⟩) 0 0) (.slice a4 ds.length c4) (.slice (some ⟨w4.heap.size, 0, none⟩) 0 0)) := X7.out.below (L := L) bU28 (by omega)
        clear S7 G7 X7
        have HQ29 : Hid _ := pick_lit [⟨#[102]⟩, ⟨#[103]⟩] (w7.heap.size) 2 L n (q + 1 + 4 + 1) a U28 S28.out (row_keep R0.out G28.out) (by omega) hn (by decide) (by decide) (by omega) nU28.out
        go_wp2_with fail
        rw [← hU28]
        clear hU28
        refine Calls.mono HQ29.out ?_
        rintro e w29 ⟨⟨n4, hn4, rfl⟩, s29, g29⟩
        have zw29 : U28.heap.size ≤ w29.heap.size := g29.size
        have S29 : Hid (SrcSt w29 L a n (q + 1 + 4 + 1 + 1)) := s29
        have G29 : Hid (wo.grownBy w29 (some L)) := grown_trans G28.out g29
        have X29 : Hid (XS wo.heap.size (w4.heap.size + 1) w29 (1) (⟨#[]⟩) (nm) ([]) (ds) (.nil) (.slice (some ⟨w2.heap.size, 0, none⟩) 0 0) (.slice a4 ds.length c4) (.slice (some ⟨w4.heap.size, 0, none⟩) 0 0)) := X28.out.grow g29 (by omega)
        clear S28 G28 X28
        clear s29 HQ29
        clear nU28 g29
        have bn4 : n4.size ≤ 40 := by
          simp only [List.mem_cons, List.not_mem_nil, or_false] at hn4
          rcases hn4 with rfl | rfl <;> decide
        clear hn4
        obtain ⟨U30, hU30⟩ : ∃ U, U = w29.alloc (.cells #[] 81) := ⟨_, rfl⟩
        have bU30 : Below w29.heap.size w29 U30 := by rw [hU30]; exact (Below.refl _ _).alloc (Nat.le_refl _) _
        have zU30 : U30.heap.size = w29.heap.size + 1 := by rw [hU30]; simp
        have nU30 : Hid (U30.heap[w29.heap.size]? = some (.cells #[] 81 (0, 0))) := by rw [Hid, hU30]; exact heap_alloc_new _ _
        have S30 : Hid (SrcSt U30 L a n (q + 1 + 4 + 1 + 1)) := S29.out.move (bU30.block L S29.out.lt)
        have G30 : Hid (wo.grownBy U30 (some L)) := grown_below G29.out bU30
        have X30 : Hid (XS wo.heap.size (w4.heap.size + 1) U30 (1) (⟨#[]⟩) (nm) ([]) (ds) (.nil) (.slice (some ⟨w2.heap.size, 0, none⟩) 0 0) (.slice a4 ds.length c4) (.slice (some ⟨w4.heap.size, 0, none⟩) 0 0)) := X29.out.below (L := L) bU30 (by omega)
        clear S29 G29 X29
        have A_30 : Hid (U30.ownsRow w29.heap.size 81 4 (.slice (some ⟨w29.heap.size, 0, none⟩) 0 0) 0 (arVs [])) := own_made hU30 (Nat.le_refl _)
        have HQ31 : Hid _ := nd_dirs L n (q + 1 + 4 + 1 + 1) a U30 S30.out (row_keep R0.out G30.out) (by omega) hn
        go_wp2_with fail
        rw [← hU30]
        clear hU30 nU30
        refine Calls.mono HQ31.out ?_
        rintro e w31 ⟨⟨d2, a6, c6, hds2, hdv2, rfl, od⟩, s31, g31⟩
        have zw31 : U30.heap.size ≤ w31.heap.size := g31.size
        have S31 : Hid (SrcSt w31 L a n (q + 1 + 4 + 1 + 1 + 4)) := s31
        have G31 : Hid (wo.grownBy w31 (some L)) := grown_trans G30.out g31
        have X31 : Hid (XS wo.heap.size (w4.heap.size + 1) w31 (1) (⟨#[]⟩) (nm) ([]) (ds) (.nil) (.slice (some ⟨w2.heap.size, 0, none⟩) 0 0) (.slice a4 ds.length c4) (.slice (some ⟨w4.heap.size, 0, none⟩) 0 0)) := X30.out.grow g31 (by omega)
        have A_31 : Hid (World.ownsRow w31 w29.heap.size 81 4 (.slice (some ⟨w29.heap.size, 0, none⟩) 0 0) 0 (arVs [])) := own_grown A_30.out g31 (by omega)
        clear S30 G30 X30 A_30
        clear s31 HQ31
        have hodd : ∀ g, (Value.slice a6 d2.length c6).ownBlock = some g → U30.heap.size ≤ g ∧ g < w31.heap.size := fun g hg => World.ownsRow.lt od g hg
        have D_31 : Hid (World.ownsRow w31 U30.heap.size 86 4 (.slice a6 d2.length c6) d2.length (diVs d2)) := od
        clear od g31
        obtain ⟨U32, hU32⟩ : ∃ U, U = w31.alloc (.cells #[] 63) := ⟨_, rfl⟩
        have bU32 : Below w31.heap.size w31 U32 := by rw [hU32]; exact (Below.refl _ _).alloc (Nat.le_refl _) _
        have zU32 : U32.heap.size = w31.heap.size + 1 := by rw [hU32]; simp
        have nU32 : Hid (U32.heap[w31.heap.size]? = some (.cells #[] 63 (0, 0))) := by rw [Hid, hU32]; exact heap_alloc_new _ _
        have S32 : Hid (SrcSt U32 L a n (q + 1 + 4 + 1 + 1 + 4)) := S31.out.move (bU32.block L S31.out.lt)
        have G32 : Hid (wo.grownBy U32 (some L)) := grown_below G31.out bU32
        have X32 : Hid (XS wo.heap.size (w4.heap.size + 1) U32 (1) (⟨#[]⟩) (nm) ([]) (ds) (.nil) (.slice (some ⟨w2.heap.size, 0, none⟩) 0 0) (.slice a4 ds.length c4) (.slice (some ⟨w4.heap.size, 0, none⟩) 0 0)) := X31.out.below (L := L) bU32 (by omega)
        have A_32 : Hid (World.ownsRow U32 w29.heap.size 81 4 (.slice (some ⟨w29.heap.size, 0, none⟩) 0 0) 0 (arVs [])) := owns_same A_31.out (fun g hg => bU32.block g (World.ownsRow.lt A_31.out g hg).2)
        have D_32 : Hid (World.ownsRow U32 U30.heap.size 86 4 (.slice a6 d2.length c6) d2.length (diVs d2)) := owns_same D_31.out (fun g hg => bU32.block g (World.ownsRow.lt D_31.out g hg).2)
        clear S31 G31 X31 A_31 D_31
        have RK32 := RowK.made hU32
        have ltN := X32.out.lt
        have ltM : w4.heap.size + 1 < w29.heap.size := by omega
        have bN0 := X32.out.bN
        have ON : OneK wo.heap.size U32 ⟨2, ⟨#[]⟩, n4, [], d2⟩ .nil (.slice (some ⟨w29.heap.size, 0, none⟩) 0 0) (.slice a6 d2.length c6) (.slice (some ⟨w31.heap.size, 0, none⟩) 0 0) [] [] ∧ w4.heap.size + 1 ∉ blk (.slice (some ⟨w29.heap.size, 0, none⟩) 0 0) ++ (blk (.slice a6 d2.length c6) ++ (blk (.slice (some ⟨w31.heap.size, 0, none⟩) 0 0) ++ [])) := by
          have ia : ∀ g ∈ blk (.slice (some ⟨w29.heap.size, 0, none⟩) 0 0), g = w29.heap.size := fun g hg => by simpa [blk, Value.ownBlock] using hg
          have is : ∀ g ∈ blk (.slice (some ⟨w31.heap.size, 0, none⟩) 0 0) ++ [], w31.heap.size ≤ g ∧ g < U32.heap.size := fun g hg => RK32.all g hg
          have id : ∀ g ∈ blk (.slice a6 d2.length c6), U30.heap.size ≤ g ∧ g < w31.heap.size := fun g hg => hodd g (blk_mem hg)
          refine ⟨OneK.gen (la := w29.heap.size) (ha := w29.heap.size + 1) (ld := U30.heap.size) (hd := w31.heap.size) (ls := w31.heap.size) (hs := U32.heap.size) (owns_base A_32.out (fun g hg => Nat.zero_le _)) (owns_base D_32.out (fun g hg => Nat.zero_le _)) (owns_base RK32.own (fun g hg => Nat.zero_le _)) RK32.k RK32.nd (fun g hg => by have := ia g hg; omega) id is (.inl (by omega)) (.inl (by omega)) (.inl (by omega)) (by omega) (by omega) (by omega) (by omega) (by omega) (by omega), ?_⟩
          intro hN
          rcases List.mem_append.1 hN with hN | hN
          · have := ia _ hN; omega
          · rcases List.mem_append.1 hN with hN | hN
            · have := id _ hN; omega
            · have := is _ hN; omega
        have yx33 := fun o => row_cell X32.out.x o
        have fx33 := fun o => row_frozen X32.out.x o
        obtain ⟨Y33, hY33⟩ : ∃ Y : World, Y = put6N U32 (w4.heap.size + 1) (.int .i64 2) (.string ⟨#[]⟩) (.string n4) (.slice (some ⟨w29.heap.size, 0, none⟩) 0 0) (.slice a6 d2.length c6) (.slice (some ⟨w31.heap.size, 0, none⟩) 0 0) := ⟨_, rfl⟩
        have zY33 : U32.heap.size ≤ Y33.heap.size := by rw [hY33]; exact Nat.le_of_eq (put6N_size _ _ _ _ _ _ _ _).symm
        have zy33 : Y33.heap.size ≤ U32.heap.size := by rw [hY33]; exact Nat.le_of_eq (put6N_size _ _ _ _ _ _ _ _)
        have S33 : Hid (SrcSt Y33 L a n (q + 1 + 4 + 1 + 1 + 4)) := by rw [Hid, hY33]; exact S32.out.put6N (by omega) _ _ _ _ _ _
        have G33 : Hid (wo.grownBy Y33 (some L)) := by rw [Hid, hY33]; exact grown_put6 G32.out (by omega) _ _ _ _ _ _
        have X33 : Hid (XS wo.heap.size (w4.heap.size + 1) Y33 (2) (⟨#[]⟩) (n4) ([]) (d2) (.nil) (.slice (some ⟨w29.heap.size, 0, none⟩) 0 0) (.slice a6 d2.length c6) (.slice (some ⟨w31.heap.size, 0, none⟩) 0 0)) := by rw [Hid, hY33]; exact XS.all6 X32.out.x ON.1 ON.2 (by omega)
        rw [hU32] at yx33 fx33
        go_upto_region 23 with fail
        unfold put6N at hY33
        rw [← hU32, ← hY33]
        clear hY33 hU32 yx33 fx33 A_32 D_32 S32 G32 X32 ON RK32 hodd
        obtain ⟨a8, cap8, TW8, ws8, bk8, hrun, TR8, TS8, TG8⟩ := tail_app R1.out hLw G1.out G33.out S33.out X33.out (by omega)
        have HRUN : Hid _ := hrun
        have TR9 : Hid _ := TR8
        have TS9 : Hid _ := TS8
        have TG9 : Hid _ := TG8
        have TB9 : Hid (SelsBd 40 (app (g ++ [((⟨2, ⟨#[]⟩, n4, [], d2⟩ : Hd), Sels.nil)]) .nil)) := sels_snoc (m := 40) (h := (⟨2, ⟨#[]⟩, n4, [], d2⟩ : Hd)) (sub := Sels.nil) ⟨Nat.zero_le _, bn4, Nat.zero_le _, fun x hx => (by cases hx), Nat.le_trans hds2 (by decide), fun x hx => (hdv2 x hx).2⟩ (Nat.zero_le _) (trivial) g B1.out
        have TZ9 : Hid ((app (g ++ [((⟨2, ⟨#[]⟩, n4, [], d2⟩ : Hd), Sels.nil)]) .nil).size ≤ (g ++ [((⟨2, ⟨#[]⟩, n4, [], d2⟩ : Hd), Sels.nil)]).length * ndIt d) := by
          rw [Hid, size_snoc, List.length_append, List.length_singleton, Nat.succ_mul]
          have := Z1.out
          have h1 : 1 + (Sels.nil).size ≤ ndIt d := (by simp only [Sels.size]; exact ndIt_pos d)
          omega
        have TS10 : Hid (SrcSt TW8 L a n (k + 1 + (g ++ [((⟨2, ⟨#[]⟩, n4, [], d2⟩ : Hd), Sels.nil)]).length * ndRd d)) := by
          rw [Hid, List.length_append, List.length_singleton, Nat.succ_mul]
          exact SrcSt.more TS9.out (by omega)
        have xk := fun o => row_cell X33.out.x o
        clear hrun TR8 TS8 TG8 B1 Z1 S33 G33 X33 R1 G1 R0 TS9
        go_wp2_with (first | (at_builtin; refine wpList_append_runR rfl _ _ _ rfl _ _ _ _ rfl rfl HRUN.out ?_) | fail)
        exact ⟨⟨j, g ++ [((⟨2, ⟨#[]⟩, n4, [], d2⟩ : Hd), Sels.nil)], _, _, a8, cap8, by rw [List.length_append, List.length_singleton], by go_num, by rw [List.length_append, List.length_singleton]; omega, by rw [List.length_append, List.length_singleton]; omega, TS10, TG9, TR9, TB9, TZ9⟩, by first | (simp [intOf]; done) | (simp [intOf]; omega)⟩
      · obtain ⟨U34, hU34⟩ : ∃ U, U = w7.alloc (.cells #[.string ⟨#[97]⟩, .string ⟨#[118]⟩, .string ⟨#[105, 100]⟩] 9) := ⟨_, rfl⟩
        have bU34 : Below w7.heap.size w7 U34 := by rw [hU34]; exact (Below.refl _ _).alloc (Nat.le_refl _) _
        have zU34 : U34.heap.size = w7.heap.size + 1 := by rw [hU34]; simp
        have nU34 : Hid (U34.heap[w7.heap.size]? = some (.cells #[.string ⟨#[97]⟩, .string ⟨#[118]⟩, .string ⟨#[105, 100]⟩] 9 (0, 0))) := by rw [Hid, hU34]; exact heap_alloc_new _ _
        have S34 : Hid (SrcSt U34 L a n (q + 1 + 4 + 1)) := S7.out.move (bU34.block L S7.out.lt)
        have G34 : Hid (wo.grownBy U34 (some L)) := grown_below G7.out bU34
        have X34 : Hid (XS wo.heap.size (w4.heap.size + 1) U34 (1) (⟨#[]⟩) (nm) ([]) (ds) (.nil) (.slice (some ⟨w2.heap.size, 0, none⟩) 0 0) (.slice a4 ds.length c4) (.slice (some ⟨w4.heap.size, 0, none⟩) 0 0)) := X7.out.below (L := L) bU34 (by omega)
        clear S7 G7 X7
        have HQ35 : Hid _ := pick_lit [⟨#[97]⟩, ⟨#[118]⟩, ⟨#[105, 100]⟩] (w7.heap.size) 3 L n (q + 1 + 4 + 1) a U34 S34.out (row_keep R0.out G34.out) (by omega) hn (by decide) (by decide) (by omega) nU34.out
        go_wp2_with fail
        rw [← hU34]
        clear hU34
        refine Calls.mono HQ35.out ?_
        rintro e w35 ⟨⟨n3, hn3, rfl⟩, s35, g35⟩
        have zw35 : U34.heap.size ≤ w35.heap.size := g35.size
        have S35 : Hid (SrcSt w35 L a n (q + 1 + 4 + 1 + 1)) := s35
        have G35 : Hid (wo.grownBy w35 (some L)) := grown_trans G34.out g35
        have X35 : Hid (XS wo.heap.size (w4.heap.size + 1) w35 (1) (⟨#[]⟩) (nm) ([]) (ds) (.nil) (.slice (some ⟨w2.heap.size, 0, none⟩) 0 0) (.slice a4 ds.length c4) (.slice (some ⟨w4.heap.size, 0, none⟩) 0 0)) := X34.out.grow g35 (by omega)
        clear S34 G34 X34
        clear s35 HQ35
        clear nU34 g35
        have bn3 : n3.size ≤ 40 := by
          simp only [List.mem_cons, List.not_mem_nil, or_false] at hn3
          rcases hn3 with rfl | rfl | rfl <;> decide
        clear hn3
        have yx36 := fun o => row_cell X35.out.x o
        have fx36 := fun o => row_frozen X35.out.x o
        obtain ⟨Y36, hY36⟩ : ∃ Y : World, Y = w35.setCell ⟨w4.heap.size + 1, 1, none⟩ (.string n3) := ⟨_, rfl⟩
        have zY36 : w35.heap.size ≤ Y36.heap.size := by rw [hY36]; simp [World.setCell]
        have zy36 : Y36.heap.size ≤ w35.heap.size := by rw [hY36]; simp [World.setCell]
        have zN36 := X35.out.lt
        have S36 : Hid (SrcSt Y36 L a n (q + 1 + 4 + 1 + 1)) := by rw [Hid, hY36]; exact S35.out.set (by omega)
        have G36 : Hid (wo.grownBy Y36 (some L)) := by rw [Hid, hY36]; exact grown_new G35.out X35.out.bN _
        have X36 : Hid (XS wo.heap.size (w4.heap.size + 1) Y36 (1) (n3) (nm) ([]) (ds) (.nil) (.slice (some ⟨w2.heap.size, 0, none⟩) 0 0) (.slice a4 ds.length c4) (.slice (some ⟨w4.heap.size, 0, none⟩) 0 0)) := by rw [Hid, hY36]; exact X35.out.setAl n3
        go_upto_region 23 with fail
        rw [← hY36]
        clear hY36 yx36 fx36 S35 G35 X35
        obtain ⟨a8, cap8, TW8, ws8, bk8, hrun, TR8, TS8, TG8⟩ := tail_app R1.out hLw G1.out G36.out S36.out X36.out (by omega)
        have HRUN : Hid _ := hrun
        have TR9 : Hid _ := TR8
        have TS9 : Hid _ := TS8
        have TG9 : Hid _ := TG8
        have TB9 : Hid (SelsBd 40 (app (g ++ [((⟨1, n3, nm, [], ds⟩ : Hd), Sels.nil)]) .nil)) := sels_snoc (m := 40) (h := (⟨1, n3, nm, [], ds⟩ : Hd)) (sub := Sels.nil) ⟨bn3, bnm, Nat.zero_le _, fun x hx => (by cases hx), Nat.le_trans hds (by decide), fun x hx => (hdv x hx).2⟩ (Nat.zero_le _) (trivial) g B1.out
        have TZ9 : Hid ((app (g ++ [((⟨1, n3, nm, [], ds⟩ : Hd), Sels.nil)]) .nil).size ≤ (g ++ [((⟨1, n3, nm, [], ds⟩ : Hd), Sels.nil)]).length * ndIt d) := by
          rw [Hid, size_snoc, List.length_append, List.length_singleton, Nat.succ_mul]
          have := Z1.out
          have h1 : 1 + (Sels.nil).size ≤ ndIt d := (by simp only [Sels.size]; exact ndIt_pos d)
          omega
        have TS10 : Hid (SrcSt TW8 L a n (k + 1 + (g ++ [((⟨1, n3, nm, [], ds⟩ : Hd), Sels.nil)]).length * ndRd d)) := by
          rw [Hid, List.length_append, List.length_singleton, Nat.succ_mul]
          exact SrcSt.more TS9.out (by omega)
        have xk := fun o => row_cell X36.out.x o
        clear hrun TR8 TS8 TG8 B1 Z1 S36 G36 X36 R1 G1 R0 TS9
        go_wp2_with (first | (at_builtin; refine wpList_append_runR rfl _ _ _ rfl _ _ _ _ rfl rfl HRUN.out ?_) | fail)
        exact ⟨⟨j, g ++ [((⟨1, n3, nm, [], ds⟩ : Hd), Sels.nil)], _, _, a8, cap8, by rw [List.length_append, List.length_singleton], by go_num, by rw [List.length_append, List.length_singleton]; omega, by rw [List.length_append, List.length_singleton]; omega, TS10, TG9, TR9, TB9, TZ9⟩, by first | (simp [intOf]; done) | (simp [intOf]; omega)⟩
      · obtain ⟨a8, cap8, TW8, ws8, bk8, hrun, TR8, TS8, TG8⟩ := tail_app R1.out hLw G1.out G7.out S7.out X7.out (by omega)
        have HRUN : Hid _ := hrun
        have TR9 : Hid _ := TR8
        have TS9 : Hid _ := TS8
        have TG9 : Hid _ := TG8
        have TB9 : Hid (SelsBd 40 (app (g ++ [((⟨1, ⟨#[]⟩, nm, [], ds⟩ : Hd), Sels.nil)]) .nil)) := sels_snoc (m := 40) (h := (⟨1, ⟨#[]⟩, nm, [], ds⟩ : Hd)) (sub := Sels.nil) ⟨Nat.zero_le _, bnm, Nat.zero_le _, fun x hx => (by cases hx), Nat.le_trans hds (by decide), fun x hx => (hdv x hx).2⟩ (Nat.zero_le _) (trivial) g B1.out
        have TZ9 : Hid ((app (g ++ [((⟨1, ⟨#[]⟩, nm, [], ds⟩ : Hd), Sels.nil)]) .nil).size ≤ (g ++ [((⟨1, ⟨#[]⟩, nm, [], ds⟩ : Hd), Sels.nil)]).length * ndIt d) := by
          rw [Hid, size_snoc, List.length_append, List.length_singleton, Nat.succ_mul]
          have := Z1.out
          have h1 : 1 + (Sels.nil).size ≤ ndIt d := (by simp only [Sels.size]; exact ndIt_pos d)
          omega
        have TS10 : Hid (SrcSt TW8 L a n (k + 1 + (g ++ [((⟨1, ⟨#[]⟩, nm, [], ds⟩ : Hd), Sels.nil)]).length * ndRd d)) := by
          rw [Hid, List.length_append, List.length_singleton, Nat.succ_mul]
          exact SrcSt.more TS9.out (by omega)
        have xk := fun o => row_cell X7.out.x o
        clear hrun TR8 TS8 TG8 B1 Z1 S7 G7 X7 R1 G1 R0 TS9
        go_wp2_with (first | (at_builtin; refine wpList_append_runR rfl _ _ _ rfl _ _ _ _ rfl rfl HRUN.out ?_) | fail)
        exact ⟨⟨j, g ++ [((⟨1, ⟨#[]⟩, nm, [], ds⟩ : Hd), Sels.nil)], _, _, a8, cap8, by rw [List.length_append, List.length_singleton], by go_num, by rw [List.length_append, List.length_singleton]; omega, by rw [List.length_append, List.length_singleton]; omega, TS10, TG9, TR9, TB9, TZ9⟩, by first | (simp [intOf]; done) | (simp [intOf]; omega)⟩
      · obtain ⟨a8, cap8, TW8, ws8, bk8, hrun, TR8, TS8, TG8⟩ := tail_app R1.out hLw G1.out G7.out S7.out X7.out (by omega)
        have HRUN : Hid _ := hrun
        have TR9 : Hid _ := TR8
        have TS9 : Hid _ := TS8
        have TG9 : Hid _ := TG8
        have TB9 : Hid (SelsBd 40 (app (g ++ [((⟨1, ⟨#[]⟩, nm, [], ds⟩ : Hd), Sels.nil)]) .nil)) := sels_snoc (m := 40) (h := (⟨1, ⟨#[]⟩, nm, [], ds⟩ : Hd)) (sub := Sels.nil) ⟨Nat.zero_le _, bnm, Nat.zero_le _, fun x hx => (by cases hx), Nat.le_trans hds (by decide), fun x hx => (hdv x hx).2⟩ (Nat.zero_le _) (trivial) g B1.out
        have TZ9 : Hid ((app (g ++ [((⟨1, ⟨#[]⟩, nm, [], ds⟩ : Hd), Sels.nil)]) .nil).size ≤ (g ++ [((⟨1, ⟨#[]⟩, nm, [], ds⟩ : Hd), Sels.nil)]).length * ndIt d) := by
          rw [Hid, size_snoc, List.length_append, List.length_singleton, Nat.succ_mul]
          have := Z1.out
          have h1 : 1 + (Sels.nil).size ≤ ndIt d := (by simp only [Sels.size]; exact ndIt_pos d)
          omega
        have TS10 : Hid (SrcSt TW8 L a n (k + 1 + (g ++ [((⟨1, ⟨#[]⟩, nm, [], ds⟩ : Hd), Sels.nil)]).length * ndRd d)) := by
          rw [Hid, List.length_append, List.length_singleton, Nat.succ_mul]
          exact SrcSt.more TS9.out (by omega)
        have xk := fun o => row_cell X7.out.x o
        clear hrun TR8 TS8 TG8 B1 Z1 S7 G7 X7 R1 G1 R0 TS9
        go_wp2_with (first | (at_builtin; refine wpList_append_runR rfl _ _ _ rfl _ _ _ _ rfl rfl HRUN.out ?_) | fail)
        exact ⟨⟨j, g ++ [((⟨1, ⟨#[]⟩, nm, [], ds⟩ : Hd), Sels.nil)], _, _, a8, cap8, by rw [List.length_append, List.length_singleton], by go_num, by rw [List.length_append, List.length_singleton]; omega, by rw [List.length_append, List.length_singleton]; omega, TS10, TG9, TR9, TB9, TZ9⟩, by first | (simp [intOf]; done) | (simp [intOf]; omega)⟩
      · obtain ⟨a8, cap8, TW8, ws8, bk8, hrun, TR8, TS8, TG8⟩ := tail_app R1.out hLw G1.out G7.out S7.out X7.out (by omega)
        have HRUN : Hid _ := hrun
        have TR9 : Hid _ := TR8
        have TS9 : Hid _ := TS8
        have TG9 : Hid _ := TG8
        have TB9 : Hid (SelsBd 40 (app (g ++ [((⟨1, ⟨#[]⟩, nm, [], ds⟩ : Hd), Sels.nil)]) .nil)) := sels_snoc (m := 40) (h := (⟨1, ⟨#[]⟩, nm, [], ds⟩ : Hd)) (sub := Sels.nil) ⟨Nat.zero_le _, bnm, Nat.zero_le _, fun x hx => (by cases hx), Nat.le_trans hds (by decide), fun x hx => (hdv x hx).2⟩ (Nat.zero_le _) (trivial) g B1.out
        have TZ9 : Hid ((app (g ++ [((⟨1, ⟨#[]⟩, nm, [], ds⟩ : Hd), Sels.nil)]) .nil).size ≤ (g ++ [((⟨1, ⟨#[]⟩, nm, [], ds⟩ : Hd), Sels.nil)]).length * ndIt d) := by
          rw [Hid, size_snoc, List.length_append, List.length_singleton, Nat.succ_mul]
          have := Z1.out
          have h1 : 1 + (Sels.nil).size ≤ ndIt d := (by simp only [Sels.size]; exact ndIt_pos d)
          omega
        have TS10 : Hid (SrcSt TW8 L a n (k + 1 + (g ++ [((⟨1, ⟨#[]⟩, nm, [], ds⟩ : Hd), Sels.nil)]).length * ndRd d)) := by
          rw [Hid, List.length_append, List.length_singleton, Nat.succ_mul]
          exact SrcSt.more TS9.out (by omega)
        have xk := fun o => row_cell X7.out.x o
        clear hrun TR8 TS8 TG8 B1 Z1 S7 G7 X7 R1 G1 R0 TS9
        go_wp2_with (first | (at_builtin; refine wpList_append_runR rfl _ _ _ rfl _ _ _ _ rfl rfl HRUN.out ?_) | fail)
        exact ⟨⟨j, g ++ [((⟨1, ⟨#[]⟩, nm, [], ds⟩ : Hd), Sels.nil)], _, _, a8, cap8, by rw [List.length_append, List.length_singleton], by go_num, by rw [List.length_append, List.length_singleton]; omega, by rw [List.length_append, List.length_singleton]; omega, TS10, TG9, TR9, TB9, TZ9⟩, by first | (simp [intOf]; done) | (simp [intOf]; omega)⟩
theorem node_ok : ∀ d, NodeOk d
  | 0 => nd_node 0 fun d' h => by omega
  | d + 1 => nd_node (d + 1) fun d' h => by
    obtain rfl : d = d' := by omega
    exact node_ok d
end Go.Proofs.Ytajjaddlalbnmaa
