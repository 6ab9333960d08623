/- Drawn selections of a query. (By ndroot.py.) -/
import Derived.Test.YtajjaddlalbnmaaNdCut
namespace Go.Proofs.Ytajjaddlalbnmaa
open Go.ChangeShapes Go.WideShapes Go.ChangeAt Go.RowKit
open Go.Proofs.Ytajjaddlalbnmaa.G (row_cell row_frozen row_set)
set_option linter.unusedVariables false

theorem sz_id : (⟨#[105, 100]⟩ : ByteArray).size ≤ 40 := by decide
set_option maxHeartbeats 40000000 in
set_option maxRecDepth 4000 in
theorem nd_root (kd : Int) (L n k : Nat) (a : Option Addr) (w : World) (h : SrcSt w L a n k) (hr : ByteRow L w a n) (hkd : ¬ kd = 2) (hk : k ≤ 80000) (hn : n ≤ 1048576) :
    Calls Try.prog 25 #[.pointer (some ⟨L, 0, none⟩), .int .i64 kd] w fun e w' => (∃ (l : Sels) (a' : Option Addr) (c' : Nat) (ws : List Value) (bk : List Nat), (SelsBd 40 l ∧ 1 ≤ l.len ∧ l.len ≤ 3 ∧ l.size ≤ 120 ∧ RowK w.heap.size w' (.slice a' l.len c') l ws bk) ∧ e = .returned (.slice a' l.len c')) ∧ SrcSt w' L a n (k + 1400) ∧ w.grownBy w' (some L) := by
  have S0 : Hid (SrcSt w L a n k) := h
  have R0 : Hid (ByteRow L w a n) := hr
  have hLw := h.lt
  have hkb : (kd == 2) = false := by simp [hkd]
  have hr2 : ndRd 2 = 147 := rfl
  have hi2 : ndIt 2 = 13 := rfl
  clear h hr
  go_enter Try.func25, Try.ntmps25
  obtain ⟨U, hU⟩ : ∃ U, U = w.alloc (.cells #[] 63) := ⟨_, rfl⟩
  have bU : Below w.heap.size w U := by rw [hU]; exact (Below.refl _ _).alloc (Nat.le_refl _) _
  have zU : U.heap.size = w.heap.size + 1 := by rw [hU]; simp
  have SU : Hid (SrcSt U L a n k) := S0.out.move (bU.block L S0.out.lt)
  have GU : Hid (w.grownBy U (some L)) := grown_below (grown_refl _ _) bU
  have RU : Hid (RowK w.heap.size U (.slice (some ⟨w.heap.size, 0, none⟩) 0 0) .nil [] []) := RowK.made hU
  have HQ : Hid _ := next_pos 3 L n k a U SU.out (row_keep R0.out GU.out) (by omega) hn (by omega) (by omega)
  go_upto_region 2 with fail
  rw [← hU]
  clear hU bU S0 SU
  go_wp2_with fail
  refine Calls.mono HQ.out ?_
  rintro e w1 ⟨⟨v, hv, rfl⟩, s1, g1⟩
  have S1 : Hid (SrcSt w1 L a n (k + 1)) := s1
  have G1 : Hid (w.grownBy w1 (some L)) := grown_trans GU.out g1
  have RW : Hid (RowK w.heap.size w1 (.slice (some ⟨w.heap.size, 0, none⟩) 0 0) .nil [] []) := RU.out.grow g1 hLw
  clear s1 g1 HQ RU GU
  go_wp2_with fail
  go_loopw [5, 6] (fun u i w' => ∃ (j : Nat) (g : List (Hd × Sels)) (ws : List Value) (bk : List Nat) (a' : Option Addr) (c' : Nat), u = .slice a' g.length c' ∧ i = .int .i64 j ∧ g.length + j ≤ 3 ∧ 1 ≤ g.length + j ∧ Hid (SrcSt w' L a n (k + 1 + g.length * 460)) ∧ Hid (w.grownBy w' (some L)) ∧ Hid (RowK w.heap.size w' (.slice a' g.length c') (app g .nil) ws bk) ∧ Hid (SelsBd 40 (app g .nil)) ∧ Hid ((app g .nil).size ≤ g.length * 40)) (fun _ i _ => (intOf i).toNat)
  case atStart => exact ⟨1 + v, [], _, _, _, 0, rfl, by go_num, by simp; omega, by simp, by simpa using S1, G1, RW, trivial, Nat.zero_le _⟩
  case round =>
    obtain ⟨j, g, ws, bk, a', c', rfl, rfl, hgj, hgj1, SH, G1, R1, B1, Z1⟩ := hrel
    obtain ⟨wo, rfl⟩ : ∃ z, z = wr := ⟨_, rfl⟩
    cases j with
    | zero =>
      have hlen : (app g Sels.nil).len = g.length := by rw [app_len]; rfl
      have SE : Hid (SrcSt wo L a n (k + 1400)) := SH.out.more (by omega)
      go_wp2_with fail
      go_ret
      exact ⟨⟨app g .nil, a', c', ws, bk, ⟨B1.out, by omega, by omega, by have := Z1.out; omega, by rw [hlen]; exact R1.out⟩, by rw [hlen]; rfl⟩, SE.out, G1.out⟩
    | succ j =>
      have hg2 : g.length ≤ 2 := by omega
      have hj0 : ((j + 1 : Nat) : Int) = (j : Int) + 1 := by omega
      obtain ⟨q, hq⟩ : ∃ q, q = k + 1 + g.length * 460 := ⟨_, rfl⟩
      have S0 : Hid (SrcSt wo L a n q) := by rw [hq]; exact SH
      have G0 : Hid (wo.grownBy wo (some L)) := grown_refl _ _
      have R0 : Hid (ByteRow L wo a n) := row_keep R0.out G1.out
      have hwo : w.heap.size ≤ wo.heap.size := G1.out.size
      clear SH
      obtain ⟨U1, hU1⟩ : ∃ U, U = wo.alloc (.cells #[.string ⟨#[]⟩, .string ⟨#[97]⟩, .string ⟨#[98]⟩, .string ⟨#[99]⟩] 9) := ⟨_, rfl⟩
      have bU1 : Below wo.heap.size wo U1 := by rw [hU1]; exact (Below.refl _ _).alloc (Nat.le_refl _) _
      have zU1 : U1.heap.size = wo.heap.size + 1 := by rw [hU1]; simp
      have nU1 : Hid (U1.heap[wo.heap.size]? = some (.cells #[.string ⟨#[]⟩, .string ⟨#[97]⟩, .string ⟨#[98]⟩, .string ⟨#[99]⟩] 9 (0, 0))) := by rw [Hid, hU1]; exact heap_alloc_new _ _
      have S1 : Hid (SrcSt U1 L a n (q)) := S0.out.move (bU1.block L S0.out.lt)
      have G1 : Hid (wo.grownBy U1 (some L)) := grown_below G0.out bU1
      have HQ2 : Hid _ := pick_lit [⟨#[]⟩, ⟨#[97]⟩, ⟨#[98]⟩, ⟨#[99]⟩] (wo.heap.size) 4 L n (q) a U1 S1.out (row_keep R0.out G1.out) (by omega) hn (by decide) (by decide) (by omega) nU1.out
      go_wp2_with fail
      rw [← hU1]
      clear hU1
      refine Calls.mono HQ2.out ?_
      rintro e w2 ⟨⟨n1, hn1, rfl⟩, s2, g2⟩
      have zw2 : U1.heap.size ≤ w2.heap.size := g2.size
      have S2 : Hid (SrcSt w2 L a n (q + 1)) := s2
      have G2 : Hid (wo.grownBy w2 (some L)) := grown_trans G1.out g2
      clear S1 G1
      clear s2 HQ2
      clear nU1 g2
      have bn1 : n1.size ≤ 40 := by
        simp only [List.mem_cons, List.not_mem_nil, or_false] at hn1
        rcases hn1 with rfl | rfl | rfl | rfl <;> decide
      clear hn1
      obtain ⟨U3, hU3⟩ : ∃ U, U = w2.alloc (.cells #[.string ⟨#[110, 111, 100, 101]⟩, .string ⟨#[110, 111, 100, 101]⟩, .string ⟨#[109, 117, 115, 116]⟩, .string ⟨#[110, 111, 100, 101, 115]⟩] 9) := ⟨_, rfl⟩
      have bU3 : Below w2.heap.size w2 U3 := by rw [hU3]; exact (Below.refl _ _).alloc (Nat.le_refl _) _
      have zU3 : U3.heap.size = w2.heap.size + 1 := by rw [hU3]; simp
      have nU3 : Hid (U3.heap[w2.heap.size]? = some (.cells #[.string ⟨#[110, 111, 100, 101]⟩, .string ⟨#[110, 111, 100, 101]⟩, .string ⟨#[109, 117, 115, 116]⟩, .string ⟨#[110, 111, 100, 101, 115]⟩] 9 (0, 0))) := by rw [Hid, hU3]; exact heap_alloc_new _ _
      have S3 : Hid (SrcSt U3 L a n (q + 1)) := S2.out.move (bU3.block L S2.out.lt)
      have G3 : Hid (wo.grownBy U3 (some L)) := grown_below G2.out bU3
      clear S2 G2
      have HQ4 : Hid _ := pick_lit [⟨#[110, 111, 100, 101]⟩, ⟨#[110, 111, 100, 101]⟩, ⟨#[109, 117, 115, 116]⟩, ⟨#[110, 111, 100, 101, 115]⟩] (w2.heap.size) 4 L n (q + 1) a U3 S3.out (row_keep R0.out G3.out) (by omega) hn (by decide) (by decide) (by omega) nU3.out
      go_wp2_with fail
      rw [← hU3]
      clear hU3
      refine Calls.mono HQ4.out ?_
      rintro e w4 ⟨⟨nm, hnm, rfl⟩, s4, g4⟩
      have zw4 : U3.heap.size ≤ w4.heap.size := g4.size
      have S4 : Hid (SrcSt w4 L a n (q + 1 + 1)) := s4
      have G4 : Hid (wo.grownBy w4 (some L)) := grown_trans G3.out g4
      clear S3 G3
      clear s4 HQ4
      clear nU3 g4
      have bnm : nm.size ≤ 40 := by
        simp only [List.mem_cons, List.not_mem_nil, or_false] at hnm
        rcases hnm with rfl | rfl | rfl | rfl <;> decide
      clear hnm
      have HQ5 : Hid _ := nd_value L n (q + 1 + 1) a w4 S4.out (row_keep R0.out G4.out) (by omega) hn
      go_wp2_with fail
      refine Calls.mono HQ5.out ?_
      rintro e w5 ⟨⟨va, hva, rfl⟩, s5, g5⟩
      have zw5 : w4.heap.size ≤ w5.heap.size := g5.size
      have S5 : Hid (SrcSt w5 L a n (q + 1 + 1 + 2)) := s5
      have G5 : Hid (wo.grownBy w5 (some L)) := grown_trans G4.out g5
      clear S4 G4
      clear s5 HQ5
      clear g5
      obtain ⟨U6, hU6⟩ : ∃ U, U = w5.alloc (.cells #[.string ⟨#[105, 100]⟩, .int .i64 va.k, .int .i64 va.n, .string va.t] 81) := ⟨_, rfl⟩
      have bU6 : Below w5.heap.size w5 U6 := by rw [hU6]; exact (Below.refl _ _).alloc (Nat.le_refl _) _
      have zU6 : U6.heap.size = w5.heap.size + 1 := by rw [hU6]; simp
      have nU6 : Hid (U6.heap[w5.heap.size]? = some (.cells #[.string ⟨#[105, 100]⟩, .int .i64 va.k, .int .i64 va.n, .string va.t] 81 (0, 0))) := by rw [Hid, hU6]; exact heap_alloc_new _ _
      have S6 : Hid (SrcSt U6 L a n (q + 1 + 1 + 2)) := S5.out.move (bU6.block L S5.out.lt)
      have G6 : Hid (wo.grownBy U6 (some L)) := grown_below G5.out bU6
      clear S5 G5
      have A_6 : Hid (U6.ownsRow w5.heap.size 81 4 (.slice (some ⟨w5.heap.size, 0, none⟩) 1 1) 1 (arVs [(⟨⟨#[105, 100]⟩, va⟩ : Ar)])) := ⟨rfl, .inr ⟨w5.heap.size, 1, _, rfl, Nat.le_refl _, nU6.out, Nat.le_refl _, by unfold maxLen; omega, rfl, rfl⟩⟩
      have HQ7 : Hid _ := nd_dirs L n (q + 1 + 1 + 2) a U6 S6.out (row_keep R0.out G6.out) (by omega) hn
      go_wp2_with fail
      rw [← hU6]
      clear hU6 nU6
      refine Calls.mono HQ7.out ?_
      rintro e w7 ⟨⟨ds, a4, c4, hds, hdv, rfl, od⟩, s7, g7⟩
      have zw7 : U6.heap.size ≤ w7.heap.size := g7.size
      have S7 : Hid (SrcSt w7 L a n (q + 1 + 1 + 2 + 4)) := s7
      have G7 : Hid (wo.grownBy w7 (some L)) := grown_trans G6.out g7
      have A_7 : Hid (World.ownsRow w7 w5.heap.size 81 4 (.slice (some ⟨w5.heap.size, 0, none⟩) 1 1) 1 (arVs [(⟨⟨#[105, 100]⟩, va⟩ : Ar)])) := own_grown A_6.out g7 (by omega)
      clear S6 G6 A_6
      clear s7 HQ7
      have hodd : ∀ g, (Value.slice a4 ds.length c4).ownBlock = some g → U6.heap.size ≤ g ∧ g < w7.heap.size := fun g hg => World.ownsRow.lt od g hg
      have D_7 : Hid (World.ownsRow w7 U6.heap.size 86 4 (.slice a4 ds.length c4) ds.length (diVs ds)) := od
      clear od g7
      have HQ9 : Hid _ := (show Calls Try.prog 45 #[.pointer (some ⟨L, 0, none⟩), .int .i64 2] w7 _ from node_ok 2 L n (q + 1 + 1 + 2 + 4) a w7 S7.out (row_keep R0.out G7.out) (by omega) hn)
      go_wp2_with fail
      refine Calls.mono HQ9.out ?_
      rintro e w9 ⟨⟨l2, a5, c5, ws5, bk5, ⟨hb5, hl5, hl6, hz5, R5⟩, rfl⟩, s9, g9⟩
      have zw9 : w7.heap.size ≤ w9.heap.size := g9.size
      have S9 : Hid (SrcSt w9 L a n (q + 1 + 1 + 2 + 4 + (1 + 3 * ndRd 2))) := s9
      have G9 : Hid (wo.grownBy w9 (some L)) := grown_trans G7.out g9
      have A_9 : Hid (World.ownsRow w9 w5.heap.size 81 4 (.slice (some ⟨w5.heap.size, 0, none⟩) 1 1) 1 (arVs [(⟨⟨#[105, 100]⟩, va⟩ : Ar)])) := own_grown A_7.out g9 (by omega)
      have D_9 : Hid (World.ownsRow w9 U6.heap.size 86 4 (.slice a4 ds.length c4) ds.length (diVs ds)) := own_grown D_7.out g9 (by omega)
      clear S7 G7 A_7 D_7
      clear s9 HQ9
      have hb6 : Hid (SelsBd 40 l2) := hb5
      clear g9 hb5
      obtain ⟨g5, rfl, hc5⟩ := own_some R5.own hl5
      obtain ⟨U10, hU10⟩ : ∃ U, U = w9.alloc (.cells #[.int .i64 1, .string n1, .string nm, .slice (some ⟨w5.heap.size, 0, none⟩) 1 1, .slice a4 ds.length c4, .slice (some ⟨g5, 0, none⟩) l2.len c5] 63) := ⟨_, rfl⟩
      have bU10 : Below w9.heap.size w9 U10 := by rw [hU10]; exact (Below.refl _ _).alloc (Nat.le_refl _) _
      have zU10 : U10.heap.size = w9.heap.size + 1 := by rw [hU10]; simp
      have nU10 : Hid (U10.heap[w9.heap.size]? = some (.cells #[.int .i64 1, .string n1, .string nm, .slice (some ⟨w5.heap.size, 0, none⟩) 1 1, .slice a4 ds.length c4, .slice (some ⟨g5, 0, none⟩) l2.len c5] 63 (0, 0))) := by rw [Hid, hU10]; exact heap_alloc_new _ _
      have S10 : Hid (SrcSt U10 L a n (q + 1 + 1 + 2 + 4 + (1 + 3 * ndRd 2))) := S9.out.move (bU10.block L S9.out.lt)
      have G10 : Hid (wo.grownBy U10 (some L)) := grown_below G9.out bU10
      have A_10 : Hid (World.ownsRow U10 w5.heap.size 81 4 (.slice (some ⟨w5.heap.size, 0, none⟩) 1 1) 1 (arVs [(⟨⟨#[105, 100]⟩, va⟩ : Ar)])) := owns_same A_9.out (fun g hg => bU10.block g (World.ownsRow.lt A_9.out g hg).2)
      have D_10 : Hid (World.ownsRow U10 U6.heap.size 86 4 (.slice a4 ds.length c4) ds.length (diVs ds)) := owns_same D_9.out (fun g hg => bU10.block g (World.ownsRow.lt D_9.out g hg).2)
      clear S9 G9 A_9 D_9
      have RK10 := R5.keep bU10.size (fun g hg => bU10.block g (R5.all g hg).2)
      have ON : OneK wo.heap.size U10 ⟨1, n1, nm, [(⟨⟨#[105, 100]⟩, va⟩ : Ar)], ds⟩ l2 (.slice (some ⟨w5.heap.size, 0, none⟩) 1 1) (.slice a4 ds.length c4) (.slice (some ⟨g5, 0, none⟩) l2.len c5) ws5 bk5 ∧ w9.heap.size ∉ blk (.slice (some ⟨w5.heap.size, 0, none⟩) 1 1) ++ (blk (.slice a4 ds.length c4) ++ (blk (.slice (some ⟨g5, 0, none⟩) l2.len c5) ++ bk5)) := by
        have ia : ∀ g ∈ blk (.slice (some ⟨w5.heap.size, 0, none⟩) 1 1), g = w5.heap.size := fun g hg => by simpa [blk, Value.ownBlock] using hg
        have is : ∀ g ∈ blk (.slice (some ⟨g5, 0, none⟩) l2.len c5) ++ bk5, w7.heap.size ≤ g ∧ g < w9.heap.size := fun g hg => R5.all g hg
        have id : ∀ g ∈ blk (.slice a4 ds.length c4), U6.heap.size ≤ g ∧ g < w7.heap.size := fun g hg => hodd g (blk_mem hg)
        refine ⟨OneK.gen (la := w5.heap.size) (ha := w5.heap.size + 1) (ld := U6.heap.size) (hd := w7.heap.size) (ls := w7.heap.size) (hs := w9.heap.size) (owns_base A_10.out (fun g hg => Nat.zero_le _)) (owns_base D_10.out (fun g hg => Nat.zero_le _)) (owns_base RK10.own (fun g hg => Nat.zero_le _)) RK10.k RK10.nd (fun g hg => by have := ia g hg; omega) id is (.inl (by omega)) (.inl (by omega)) (.inl (by omega)) (by omega) (by omega) (by omega) (by omega) (by omega) (by omega), ?_⟩
        intro hN
        rcases List.mem_append.1 hN with hN | hN
        · have := ia _ hN; omega
        · rcases List.mem_append.1 hN with hN | hN
          · have := id _ hN; omega
          · have := is _ hN; omega
      have XY0 : Hid (XS wo.heap.size (w9.heap.size) U10 (1) (n1) (nm) ([(⟨⟨#[105, 100]⟩, va⟩ : Ar)]) (ds) (l2) (.slice (some ⟨w5.heap.size, 0, none⟩) 1 1) (.slice a4 ds.length c4) (.slice (some ⟨g5, 0, none⟩) l2.len c5)) := ⟨nU10.out, ⟨ws5, bk5, ON⟩, by omega⟩
      go_upto_region 6 with fail
      rw [← hU10]
      clear hU10 nU10 A_10 D_10 ON R5 RK10 hodd
      have xq := fun o => row_cell XY0.out.x o
      have za10 := Nat.le_of_eq zU10
      have zb10 := Nat.le_of_eq zU10.symm
      clear zU10
      by_cases hnd : nm.toList = [110, 111, 100, 101, 115]
      case neg =>
        have hndb : (nm.toList == [110, 111, 100, 101, 115]) = false := by simp [hnd]
        have HQ11 : Hid _ := chance_any 7 L n (q + 1 + 1 + 2 + 4 + (1 + 3 * ndRd 2)) a U10 S10.out (row_keep R0.out G10.out) (by omega) hn (by omega) (by omega)
        go_wp2_with fail
        refine Calls.mono HQ11.out ?_
        rintro e w11 ⟨⟨b, rfl⟩, s11, g11⟩
        have zw11 : U10.heap.size ≤ w11.heap.size := g11.size
        have S11 : Hid (SrcSt w11 L a n (q + 1 + 1 + 2 + 4 + (1 + 3 * ndRd 2) + 1)) := s11
        have G11 : Hid (wo.grownBy w11 (some L)) := grown_trans G10.out g11
        have X11 : Hid (XS wo.heap.size (w9.heap.size) w11 (1) (n1) (nm) ([(⟨⟨#[105, 100]⟩, va⟩ : Ar)]) (ds) (l2) (.slice (some ⟨w5.heap.size, 0, none⟩) 1 1) (.slice a4 ds.length c4) (.slice (some ⟨g5, 0, none⟩) l2.len c5)) := XY0.out.grow g11 (by omega)
        clear S10 G10 XY0
        clear s11 HQ11
        clear g11
        cases b with
        | false =>
          obtain ⟨a8, cap8, TW8, ws8, bk8, hrun, TR8, TS8, TG8⟩ := tail_app R1.out hLw G1.out G11.out S11.out X11.out (by omega)
          have HRUN : Hid _ := hrun
          have TR9 : Hid _ := TR8
          have TS9 : Hid _ := TS8
          have TG9 : Hid _ := TG8
          have TB9 : Hid (SelsBd 40 (app (g ++ [((⟨1, n1, nm, [(⟨⟨#[105, 100]⟩, va⟩ : Ar)], ds⟩ : Hd), l2)]) .nil)) := sels_snoc (m := 40) (h := (⟨1, n1, nm, [(⟨⟨#[105, 100]⟩, va⟩ : Ar)], ds⟩ : Hd)) (sub := l2) ⟨bn1, bnm, (by simp), fun x hx => (by rw [List.mem_singleton.1 hx]; exact ⟨sz_id, hva.2⟩), Nat.le_trans hds (by decide), fun x hx => (hdv x hx).2⟩ (Nat.le_trans hl6 (by decide)) (hb6.out) g B1.out
          have TZ9 : Hid ((app (g ++ [((⟨1, n1, nm, [(⟨⟨#[105, 100]⟩, va⟩ : Ar)], ds⟩ : Hd), l2)]) .nil).size ≤ (g ++ [((⟨1, n1, nm, [(⟨⟨#[105, 100]⟩, va⟩ : Ar)], ds⟩ : Hd), l2)]).length * 40) := by
            rw [Hid, size_snoc, List.length_append, List.length_singleton, Nat.succ_mul]
            have := Z1.out
            have h1 : 1 + (l2).size ≤ 40 := (by omega)
            omega
          have TS10 : Hid (SrcSt TW8 L a n (k + 1 + (g ++ [((⟨1, n1, nm, [(⟨⟨#[105, 100]⟩, va⟩ : Ar)], ds⟩ : Hd), l2)]).length * 460)) := by
            rw [Hid, List.length_append, List.length_singleton, Nat.succ_mul]
            exact SrcSt.more TS9.out (by omega)
          have xk := fun o => row_cell X11.out.x o
          clear hrun TR8 TS8 TG8 B1 Z1 S11 G11 X11 R1 G1 R0 TS9
          go_wp2_with (first | (at_builtin; refine wpList_append_runR rfl _ _ _ rfl _ _ _ _ rfl rfl HRUN.out ?_) | fail)
          exact ⟨⟨j, g ++ [((⟨1, n1, nm, [(⟨⟨#[105, 100]⟩, va⟩ : Ar)], ds⟩ : Hd), l2)], _, _, a8, cap8, by rw [List.length_append, List.length_singleton], by go_num, by rw [List.length_append, List.length_singleton]; omega, by rw [List.length_append, List.length_singleton]; omega, TS10, TG9, TR9, TB9, TZ9⟩, by first | (simp [intOf]; done) | (simp [intOf]; omega)⟩
        | true =>
          obtain ⟨U12, hU12⟩ : ∃ U, U = w11.alloc (.cells #[.string ⟨#[115, 105, 122, 101]⟩, .string ⟨#[95, 95, 116, 121, 112, 101, 110, 97, 109, 101]⟩] 9) := ⟨_, rfl⟩
          have bU12 : Below w11.heap.size w11 U12 := by rw [hU12]; exact (Below.refl _ _).alloc (Nat.le_refl _) _
          have zU12 : U12.heap.size = w11.heap.size + 1 := by rw [hU12]; simp
          have nU12 : Hid (U12.heap[w11.heap.size]? = some (.cells #[.string ⟨#[115, 105, 122, 101]⟩, .string ⟨#[95, 95, 116, 121, 112, 101, 110, 97, 109, 101]⟩] 9 (0, 0))) := by rw [Hid, hU12]; exact heap_alloc_new _ _
          have S12 : Hid (SrcSt U12 L a n (q + 1 + 1 + 2 + 4 + (1 + 3 * ndRd 2) + 1)) := S11.out.move (bU12.block L S11.out.lt)
          have G12 : Hid (wo.grownBy U12 (some L)) := grown_below G11.out bU12
          have X12 : Hid (XS wo.heap.size (w9.heap.size) U12 (1) (n1) (nm) ([(⟨⟨#[105, 100]⟩, va⟩ : Ar)]) (ds) (l2) (.slice (some ⟨w5.heap.size, 0, none⟩) 1 1) (.slice a4 ds.length c4) (.slice (some ⟨g5, 0, none⟩) l2.len c5)) := X11.out.below (L := L) bU12 (by omega)
          clear S11 G11 X11
          have HQ13 : Hid _ := pick_lit [⟨#[115, 105, 122, 101]⟩, ⟨#[95, 95, 116, 121, 112, 101, 110, 97, 109, 101]⟩] (w11.heap.size) 2 L n (q + 1 + 1 + 2 + 4 + (1 + 3 * ndRd 2) + 1) a U12 S12.out (row_keep R0.out G12.out) (by omega) hn (by decide) (by decide) (by omega) nU12.out
          go_wp2_with fail
          rw [← hU12]
          clear hU12
          refine Calls.mono HQ13.out ?_
          rintro e w13 ⟨⟨n2, hn2, rfl⟩, s13, g13⟩
          have zw13 : U12.heap.size ≤ w13.heap.size := g13.size
          have S13 : Hid (SrcSt w13 L a n (q + 1 + 1 + 2 + 4 + (1 + 3 * ndRd 2) + 1 + 1)) := s13
          have G13 : Hid (wo.grownBy w13 (some L)) := grown_trans G12.out g13
          have X13 : Hid (XS wo.heap.size (w9.heap.size) w13 (1) (n1) (nm) ([(⟨⟨#[105, 100]⟩, va⟩ : Ar)]) (ds) (l2) (.slice (some ⟨w5.heap.size, 0, none⟩) 1 1) (.slice a4 ds.length c4) (.slice (some ⟨g5, 0, none⟩) l2.len c5)) := X12.out.grow g13 (by omega)
          clear S12 G12 X12
          clear s13 HQ13
          clear nU12 g13
          have bn2 : n2.size ≤ 40 := by
            simp only [List.mem_cons, List.not_mem_nil, or_false] at hn2
            rcases hn2 with rfl | rfl <;> decide
          clear hn2
          have yx14 := fun o => row_cell X13.out.x o
          have fx14 := fun o => row_frozen X13.out.x o
          obtain ⟨Y14, hY14⟩ : ∃ Y : World, Y = w13.setCell ⟨w9.heap.size, 2, none⟩ (.string n2) := ⟨_, rfl⟩
          have zY14 : w13.heap.size ≤ Y14.heap.size := by rw [hY14]; simp [World.setCell]
          have zy14 : Y14.heap.size ≤ w13.heap.size := by rw [hY14]; simp [World.setCell]
          have zN14 := X13.out.lt
          have S14 : Hid (SrcSt Y14 L a n (q + 1 + 1 + 2 + 4 + (1 + 3 * ndRd 2) + 1 + 1)) := by rw [Hid, hY14]; exact S13.out.set (by omega)
          have G14 : Hid (wo.grownBy Y14 (some L)) := by rw [Hid, hY14]; exact grown_new G13.out X13.out.bN _
          have X14 : Hid (XS wo.heap.size (w9.heap.size) Y14 (1) (n1) (n2) ([(⟨⟨#[105, 100]⟩, va⟩ : Ar)]) (ds) (l2) (.slice (some ⟨w5.heap.size, 0, none⟩) 1 1) (.slice a4 ds.length c4) (.slice (some ⟨g5, 0, none⟩) l2.len c5)) := by rw [Hid, hY14]; exact X13.out.setNm n2
          go_upto_region 14 with fail
          rw [← hY14]
          clear hY14 yx14 fx14 S13 G13 X13
          obtain ⟨U15, hU15⟩ : ∃ U, U = Y14.alloc (.cells #[] 81) := ⟨_, rfl⟩
          have bU15 : Below Y14.heap.size Y14 U15 := by rw [hU15]; exact (Below.refl _ _).alloc (Nat.le_refl _) _
          have zU15 : U15.heap.size = Y14.heap.size + 1 := by rw [hU15]; simp
          have ltN15 := X14.out.lt
          have Xm : Hid (XS wo.heap.size (w9.heap.size) U15 (1) (n1) (n2) ([(⟨⟨#[105, 100]⟩, va⟩ : Ar)]) (ds) (l2) (.slice (some ⟨w5.heap.size, 0, none⟩) 1 1) (.slice a4 ds.length c4) (.slice (some ⟨g5, 0, none⟩) l2.len c5)) := X14.out.below (L := L) bU15 (by omega)
          have fx15 := fun o => row_frozen Xm.out.x o
          have yx15 := fun o => row_cell Xm.out.x o
          obtain ⟨Y15, hY15⟩ : ∃ Y : World, Y = U15.setCell ⟨w9.heap.size, 3, none⟩ (.slice (some ⟨Y14.heap.size, 0, none⟩) 0 0) := ⟨_, rfl⟩
          have zY15 : U15.heap.size ≤ Y15.heap.size := by rw [hY15]; simp [World.setCell]
          have zy15 : Y15.heap.size ≤ U15.heap.size := by rw [hY15]; simp [World.setCell]
          have S15 : Hid (SrcSt Y15 L a n (q + 1 + 1 + 2 + 4 + (1 + 3 * ndRd 2) + 1 + 1)) := by rw [Hid, hY15]; exact (S14.out.move (bU15.block L S14.out.lt)).set (by omega)
          have G15 : Hid (wo.grownBy Y15 (some L)) := by rw [Hid, hY15]; exact grown_new (grown_below G14.out bU15) X14.out.bN _
          have X15 : Hid (XS wo.heap.size (w9.heap.size) Y15 (1) (n1) (n2) ([]) (ds) (l2) (.slice (some ⟨Y14.heap.size, 0, none⟩) 0 0) (.slice a4 ds.length c4) (.slice (some ⟨g5, 0, none⟩) l2.len c5)) := by rw [Hid, hY15]; exact X14.out.setArgs (us' := []) (L := L) (grown_below (grown_refl _ _) bU15) (by omega) (own_made hU15 (Nat.le_refl _))
          rw [hU15] at fx15 yx15
          go_upto_region 15 with fail
          rw [← World.setCell_alloc_past _ _ _ _ ltN15, ← hU15, ← hY15]
          clear hY15 hU15 yx15 fx15 S14 G14 X14 Xm bU15
          obtain ⟨U16, hU16⟩ : ∃ U, U = Y15.alloc (.cells #[] 63) := ⟨_, rfl⟩
          have bU16 : Below Y15.heap.size Y15 U16 := by rw [hU16]; exact (Below.refl _ _).alloc (Nat.le_refl _) _
          have zU16 : U16.heap.size = Y15.heap.size + 1 := by rw [hU16]; simp
          have ltN16 := X15.out.lt
          have Xm : Hid (XS wo.heap.size (w9.heap.size) U16 (1) (n1) (n2) ([]) (ds) (l2) (.slice (some ⟨Y14.heap.size, 0, none⟩) 0 0) (.slice a4 ds.length c4) (.slice (some ⟨g5, 0, none⟩) l2.len c5)) := X15.out.below (L := L) bU16 (by omega)
          have fx16 := fun o => row_frozen Xm.out.x o
          have yx16 := fun o => row_cell Xm.out.x o
          obtain ⟨Y16, hY16⟩ : ∃ Y : World, Y = U16.setCell ⟨w9.heap.size, 5, none⟩ (.slice (some ⟨Y15.heap.size, 0, none⟩) 0 0) := ⟨_, rfl⟩
          have zY16 : U16.heap.size ≤ Y16.heap.size := by rw [hY16]; simp [World.setCell]
          have zy16 : Y16.heap.size ≤ U16.heap.size := by rw [hY16]; simp [World.setCell]
          have S16 : Hid (SrcSt Y16 L a n (q + 1 + 1 + 2 + 4 + (1 + 3 * ndRd 2) + 1 + 1)) := by rw [Hid, hY16]; exact (S15.out.move (bU16.block L S15.out.lt)).set (by omega)
          have G16 : Hid (wo.grownBy Y16 (some L)) := by rw [Hid, hY16]; exact grown_new (grown_below G15.out bU16) X15.out.bN _
          have X16 : Hid (XS wo.heap.size (w9.heap.size) Y16 (1) (n1) (n2) ([]) (ds) (.nil) (.slice (some ⟨Y14.heap.size, 0, none⟩) 0 0) (.slice a4 ds.length c4) (.slice (some ⟨Y15.heap.size, 0, none⟩) 0 0)) := by rw [Hid, hY16]; exact X15.out.setSub (L := L) (grown_below (grown_refl _ _) bU16) (by omega) (RowK.made hU16)
          rw [hU16] at fx16 yx16
          go_upto_region 16 with fail
          rw [← World.setCell_alloc_past _ _ _ _ ltN16, ← hU16, ← hY16]
          clear hY16 hU16 yx16 fx16 S15 G15 X15 Xm bU16
          obtain ⟨a8, cap8, TW8, ws8, bk8, hrun, TR8, TS8, TG8⟩ := tail_app R1.out hLw G1.out G16.out S16.out X16.out (by omega)
          have HRUN : Hid _ := hrun
          have TR9 : Hid _ := TR8
          have TS9 : Hid _ := TS8
          have TG9 : Hid _ := TG8
          have TB9 : Hid (SelsBd 40 (app (g ++ [((⟨1, n1, n2, [], ds⟩ : Hd), Sels.nil)]) .nil)) := sels_snoc (m := 40) (h := (⟨1, n1, n2, [], ds⟩ : Hd)) (sub := Sels.nil) ⟨bn1, bn2, Nat.zero_le _, fun x hx => (by cases hx), Nat.le_trans hds (by decide), fun x hx => (hdv x hx).2⟩ (Nat.zero_le _) (trivial) g B1.out
          have TZ9 : Hid ((app (g ++ [((⟨1, n1, n2, [], ds⟩ : Hd), Sels.nil)]) .nil).size ≤ (g ++ [((⟨1, n1, n2, [], ds⟩ : Hd), Sels.nil)]).length * 40) := by
            rw [Hid, size_snoc, List.length_append, List.length_singleton, Nat.succ_mul]
            have := Z1.out
            have h1 : 1 + (Sels.nil).size ≤ 40 := (by decide)
            omega
          have TS10 : Hid (SrcSt TW8 L a n (k + 1 + (g ++ [((⟨1, n1, n2, [], ds⟩ : Hd), Sels.nil)]).length * 460)) := by
            rw [Hid, List.length_append, List.length_singleton, Nat.succ_mul]
            exact SrcSt.more TS9.out (by omega)
          have xk := fun o => row_cell X16.out.x o
          clear hrun TR8 TS8 TG8 B1 Z1 S16 G16 X16 R1 G1 R0 TS9
          go_wp2_with (first | (at_builtin; refine wpList_append_runR rfl _ _ _ rfl _ _ _ _ rfl rfl HRUN.out ?_) | fail)
          exact ⟨⟨j, g ++ [((⟨1, n1, n2, [], ds⟩ : Hd), Sels.nil)], _, _, a8, cap8, by rw [List.length_append, List.length_singleton], by go_num, by rw [List.length_append, List.length_singleton]; omega, by rw [List.length_append, List.length_singleton]; omega, TS10, TG9, TR9, TB9, TZ9⟩, by first | (simp [intOf]; done) | (simp [intOf]; omega)⟩
      case pos =>
        have hndb : (nm.toList == [110, 111, 100, 101, 115]) = true := by simp [hnd]
        obtain ⟨U17, hU17⟩ : ∃ U, U = U10.alloc (.cells #[] 81) := ⟨_, rfl⟩
        have bU17 : Below U10.heap.size U10 U17 := by rw [hU17]; exact (Below.refl _ _).alloc (Nat.le_refl _) _
        have zU17 : U17.heap.size = U10.heap.size + 1 := by rw [hU17]; simp
        have ltN17 := XY0.out.lt
        have Xm : Hid (XS wo.heap.size (w9.heap.size) U17 (1) (n1) (nm) ([(⟨⟨#[105, 100]⟩, va⟩ : Ar)]) (ds) (l2) (.slice (some ⟨w5.heap.size, 0, none⟩) 1 1) (.slice a4 ds.length c4) (.slice (some ⟨g5, 0, none⟩) l2.len c5)) := XY0.out.below (L := L) bU17 (by omega)
        have fx17 := fun o => row_frozen Xm.out.x o
        have yx17 := fun o => row_cell Xm.out.x o
        obtain ⟨Y17, hY17⟩ : ∃ Y : World, Y = U17.setCell ⟨w9.heap.size, 3, none⟩ (.slice (some ⟨U10.heap.size, 0, none⟩) 0 0) := ⟨_, rfl⟩
        have zY17 : U17.heap.size ≤ Y17.heap.size := by rw [hY17]; simp [World.setCell]
        have zy17 : Y17.heap.size ≤ U17.heap.size := by rw [hY17]; simp [World.setCell]
        have S17 : Hid (SrcSt Y17 L a n (q + 1 + 1 + 2 + 4 + (1 + 3 * ndRd 2))) := by rw [Hid, hY17]; exact (S10.out.move (bU17.block L S10.out.lt)).set (by omega)
        have G17 : Hid (wo.grownBy Y17 (some L)) := by rw [Hid, hY17]; exact grown_new (grown_below G10.out bU17) XY0.out.bN _
        have X17 : Hid (XS wo.heap.size (w9.heap.size) Y17 (1) (n1) (nm) ([]) (ds) (l2) (.slice (some ⟨U10.heap.size, 0, none⟩) 0 0) (.slice a4 ds.length c4) (.slice (some ⟨g5, 0, none⟩) l2.len c5)) := by rw [Hid, hY17]; exact XY0.out.setArgs (us' := []) (L := L) (grown_below (grown_refl _ _) bU17) (by omega) (own_made hU17 (Nat.le_refl _))
        rw [hU17] at fx17 yx17
        go_upto_region 8 with fail
        rw [← World.setCell_alloc_past _ _ _ _ ltN17, ← hU17, ← hY17]
        clear hY17 hU17 yx17 fx17 S10 G10 XY0 Xm bU17
        obtain ⟨h5, s5, r5, rfl⟩ : ∃ h s r, l2 = Sels.cons h s r := by
          cases l2 with
          | nil => simp only [Sels.len] at hl5; omega
          | cons h s r => exact ⟨h, s, r, rfl⟩
        obtain ⟨m5, hm5⟩ : ∃ m, m = (Sels.cons h5 s5 r5).len := ⟨_, rfl⟩
        have XV : Hid (XS wo.heap.size (w9.heap.size) Y17 (1) (n1) (nm) ([]) (ds) ((Sels.cons h5 s5 r5)) (.slice (some ⟨U10.heap.size, 0, none⟩) 0 0) (.slice a4 ds.length c4) (.slice (some ⟨g5, 0, none⟩) m5 c5)) := by rw [hm5]; exact X17
        rw [← hm5] at hc5 hl5 hl6
        have yx18 := fun o => row_cell XV.out.x o
        have fx18 := fun o => row_frozen XV.out.x o
        obtain ⟨Y18, hY18⟩ : ∃ Y : World, Y = Y17.setCell ⟨w9.heap.size, 5, none⟩ (.slice (some ⟨g5, 0, none⟩) 1 c5) := ⟨_, rfl⟩
        have zY18 : Y17.heap.size ≤ Y18.heap.size := by rw [hY18]; simp [World.setCell]
        have zy18 : Y18.heap.size ≤ Y17.heap.size := by rw [hY18]; simp [World.setCell]
        have zN18 := XV.out.lt
        have S18 : Hid (SrcSt Y18 L a n (q + 1 + 1 + 2 + 4 + (1 + 3 * ndRd 2))) := by rw [Hid, hY18]; exact S17.out.set (by omega)
        have G18 : Hid (wo.grownBy Y18 (some L)) := by rw [Hid, hY18]; exact grown_new G17.out XV.out.bN _
        have X18 : Hid (XS wo.heap.size (w9.heap.size) Y18 (1) (n1) (nm) ([]) (ds) ((Sels.cons h5 s5 .nil)) (.slice (some ⟨U10.heap.size, 0, none⟩) 0 0) (.slice a4 ds.length c4) (.slice (some ⟨g5, 0, none⟩) 1 c5)) := by rw [Hid, hY18]; exact XV.out.cutSub hm5
        go_upto_region 9 with fail
        rw [← hY18]
        clear hY18 yx18 fx18 S17 G17 XV
        have hb7 : Hid (SelsBd 40 (Sels.cons h5 s5 .nil)) := ⟨hb6.out.1, hb6.out.2.1, hb6.out.2.2.1, trivial⟩
        have hz7 : (Sels.cons h5 s5 .nil).size ≤ 39 := by simp only [Sels.size] at hz5 ⊢; omega
        have HQ19 : Hid _ := chance_any 7 L n (q + 1 + 1 + 2 + 4 + (1 + 3 * ndRd 2)) a Y18 S18.out (row_keep R0.out G18.out) (by omega) hn (by omega) (by omega)
        go_wp2_with fail
        refine Calls.mono HQ19.out ?_
        rintro e w19 ⟨⟨b, rfl⟩, s19, g19⟩
        have zw19 : Y18.heap.size ≤ w19.heap.size := g19.size
        have S19 : Hid (SrcSt w19 L a n (q + 1 + 1 + 2 + 4 + (1 + 3 * ndRd 2) + 1)) := s19
        have G19 : Hid (wo.grownBy w19 (some L)) := grown_trans G18.out g19
        have X19 : Hid (XS wo.heap.size (w9.heap.size) w19 (1) (n1) (nm) ([]) (ds) ((Sels.cons h5 s5 .nil)) (.slice (some ⟨U10.heap.size, 0, none⟩) 0 0) (.slice a4 ds.length c4) (.slice (some ⟨g5, 0, none⟩) 1 c5)) := X18.out.grow g19 (by omega)
        clear S18 G18 X18
        clear s19 HQ19
        clear g19
        cases b with
        | false =>
          obtain ⟨a8, cap8, TW8, ws8, bk8, hrun, TR8, TS8, TG8⟩ := tail_app R1.out hLw G1.out G19.out S19.out X19.out (by omega)
          have HRUN : Hid _ := hrun
          have TR9 : Hid _ := TR8
          have TS9 : Hid _ := TS8
          have TG9 : Hid _ := TG8
          have TB9 : Hid (SelsBd 40 (app (g ++ [((⟨1, n1, nm, [], ds⟩ : Hd), (Sels.cons h5 s5 .nil))]) .nil)) := sels_snoc (m := 40) (h := (⟨1, n1, nm, [], ds⟩ : Hd)) (sub := (Sels.cons h5 s5 .nil)) ⟨bn1, bnm, Nat.zero_le _, fun x hx => (by cases hx), Nat.le_trans hds (by decide), fun x hx => (hdv x hx).2⟩ ((by simp only [Sels.len]; omega)) (hb7.out) g B1.out
          have TZ9 : Hid ((app (g ++ [((⟨1, n1, nm, [], ds⟩ : Hd), (Sels.cons h5 s5 .nil))]) .nil).size ≤ (g ++ [((⟨1, n1, nm, [], ds⟩ : Hd), (Sels.cons h5 s5 .nil))]).length * 40) := by
            rw [Hid, size_snoc, List.length_append, List.length_singleton, Nat.succ_mul]
            have := Z1.out
            have h1 : 1 + ((Sels.cons h5 s5 .nil)).size ≤ 40 := (by omega)
            omega
          have TS10 : Hid (SrcSt TW8 L a n (k + 1 + (g ++ [((⟨1, n1, nm, [], ds⟩ : Hd), (Sels.cons h5 s5 .nil))]).length * 460)) := by
            rw [Hid, List.length_append, List.length_singleton, Nat.succ_mul]
            exact SrcSt.more TS9.out (by omega)
          have xk := fun o => row_cell X19.out.x o
          clear hrun TR8 TS8 TG8 B1 Z1 S19 G19 X19 R1 G1 R0 TS9
          go_wp2_with (first | (at_builtin; refine wpList_append_runR rfl _ _ _ rfl _ _ _ _ rfl rfl HRUN.out ?_) | fail)
          exact ⟨⟨j, g ++ [((⟨1, n1, nm, [], ds⟩ : Hd), (Sels.cons h5 s5 .nil))], _, _, a8, cap8, by rw [List.length_append, List.length_singleton], by go_num, by rw [List.length_append, List.length_singleton]; omega, by rw [List.length_append, List.length_singleton]; omega, TS10, TG9, TR9, TB9, TZ9⟩, by first | (simp [intOf]; done) | (simp [intOf]; omega)⟩
        | true =>
          obtain ⟨U20, hU20⟩ : ∃ U, U = w19.alloc (.cells #[.string ⟨#[115, 105, 122, 101]⟩, .string ⟨#[95, 95, 116, 121, 112, 101, 110, 97, 109, 101]⟩] 9) := ⟨_, rfl⟩
          have bU20 : Below w19.heap.size w19 U20 := by rw [hU20]; exact (Below.refl _ _).alloc (Nat.le_refl _) _
          have zU20 : U20.heap.size = w19.heap.size + 1 := by rw [hU20]; simp
          have nU20 : Hid (U20.heap[w19.heap.size]? = some (.cells #[.string ⟨#[115, 105, 122, 101]⟩, .string ⟨#[95, 95, 116, 121, 112, 101, 110, 97, 109, 101]⟩] 9 (0, 0))) := by rw [Hid, hU20]; exact heap_alloc_new _ _
          have S20 : Hid (SrcSt U20 L a n (q + 1 + 1 + 2 + 4 + (1 + 3 * ndRd 2) + 1)) := S19.out.move (bU20.block L S19.out.lt)
          have G20 : Hid (wo.grownBy U20 (some L)) := grown_below G19.out bU20
          have X20 : Hid (XS wo.heap.size (w9.heap.size) U20 (1) (n1) (nm) ([]) (ds) ((Sels.cons h5 s5 .nil)) (.slice (some ⟨U10.heap.size, 0, none⟩) 0 0) (.slice a4 ds.length c4) (.slice (some ⟨g5, 0, none⟩) 1 c5)) := X19.out.below (L := L) bU20 (by omega)
          clear S19 G19 X19
          have HQ21 : Hid _ := pick_lit [⟨#[115, 105, 122, 101]⟩, ⟨#[95, 95, 116, 121, 112, 101, 110, 97, 109, 101]⟩] (w19.heap.size) 2 L n (q + 1 + 1 + 2 + 4 + (1 + 3 * ndRd 2) + 1) a U20 S20.out (row_keep R0.out G20.out) (by omega) hn (by decide) (by decide) (by omega) nU20.out
          go_wp2_with fail
          rw [← hU20]
          clear hU20
          refine Calls.mono HQ21.out ?_
          rintro e w21 ⟨⟨n2, hn2, rfl⟩, s21, g21⟩
          have zw21 : U20.heap.size ≤ w21.heap.size := g21.size
          have S21 : Hid (SrcSt w21 L a n (q + 1 + 1 + 2 + 4 + (1 + 3 * ndRd 2) + 1 + 1)) := s21
          have G21 : Hid (wo.grownBy w21 (some L)) := grown_trans G20.out g21
          have X21 : Hid (XS wo.heap.size (w9.heap.size) w21 (1) (n1) (nm) ([]) (ds) ((Sels.cons h5 s5 .nil)) (.slice (some ⟨U10.heap.size, 0, none⟩) 0 0) (.slice a4 ds.length c4) (.slice (some ⟨g5, 0, none⟩) 1 c5)) := X20.out.grow g21 (by omega)
          clear S20 G20 X20
          clear s21 HQ21
          clear nU20 g21
          have bn2 : n2.size ≤ 40 := by
            simp only [List.mem_cons, List.not_mem_nil, or_false] at hn2
            rcases hn2 with rfl | rfl <;> decide
          clear hn2
          have yx22 := fun o => row_cell X21.out.x o
          have fx22 := fun o => row_frozen X21.out.x o
          obtain ⟨Y22, hY22⟩ : ∃ Y : World, Y = w21.setCell ⟨w9.heap.size, 2, none⟩ (.string n2) := ⟨_, rfl⟩
          have zY22 : w21.heap.size ≤ Y22.heap.size := by rw [hY22]; simp [World.setCell]
          have zy22 : Y22.heap.size ≤ w21.heap.size := by rw [hY22]; simp [World.setCell]
          have zN22 := X21.out.lt
          have S22 : Hid (SrcSt Y22 L a n (q + 1 + 1 + 2 + 4 + (1 + 3 * ndRd 2) + 1 + 1)) := by rw [Hid, hY22]; exact S21.out.set (by omega)
          have G22 : Hid (wo.grownBy Y22 (some L)) := by rw [Hid, hY22]; exact grown_new G21.out X21.out.bN _
          have X22 : Hid (XS wo.heap.size (w9.heap.size) Y22 (1) (n1) (n2) ([]) (ds) ((Sels.cons h5 s5 .nil)) (.slice (some ⟨U10.heap.size, 0, none⟩) 0 0) (.slice a4 ds.length c4) (.slice (some ⟨g5, 0, none⟩) 1 c5)) := by rw [Hid, hY22]; exact X21.out.setNm n2
          go_upto_region 14 with fail
          rw [← hY22]
          clear hY22 yx22 fx22 S21 G21 X21
          obtain ⟨U23, hU23⟩ : ∃ U, U = Y22.alloc (.cells #[] 81) := ⟨_, rfl⟩
          have bU23 : Below Y22.heap.size Y22 U23 := by rw [hU23]; exact (Below.refl _ _).alloc (Nat.le_refl _) _
          have zU23 : U23.heap.size = Y22.heap.size + 1 := by rw [hU23]; simp
          have ltN23 := X22.out.lt
          have Xm : Hid (XS wo.heap.size (w9.heap.size) U23 (1) (n1) (n2) ([]) (ds) ((Sels.cons h5 s5 .nil)) (.slice (some ⟨U10.heap.size, 0, none⟩) 0 0) (.slice a4 ds.length c4) (.slice (some ⟨g5, 0, none⟩) 1 c5)) := X22.out.below (L := L) bU23 (by omega)
          have fx23 := fun o => row_frozen Xm.out.x o
          have yx23 := fun o => row_cell Xm.out.x o
          obtain ⟨Y23, hY23⟩ : ∃ Y : World, Y = U23.setCell ⟨w9.heap.size, 3, none⟩ (.slice (some ⟨Y22.heap.size, 0, none⟩) 0 0) := ⟨_, rfl⟩
          have zY23 : U23.heap.size ≤ Y23.heap.size := by rw [hY23]; simp [World.setCell]
          have zy23 : Y23.heap.size ≤ U23.heap.size := by rw [hY23]; simp [World.setCell]
          have S23 : Hid (SrcSt Y23 L a n (q + 1 + 1 + 2 + 4 + (1 + 3 * ndRd 2) + 1 + 1)) := by rw [Hid, hY23]; exact (S22.out.move (bU23.block L S22.out.lt)).set (by omega)
          have G23 : Hid (wo.grownBy Y23 (some L)) := by rw [Hid, hY23]; exact grown_new (grown_below G22.out bU23) X22.out.bN _
          have X23 : Hid (XS wo.heap.size (w9.heap.size) Y23 (1) (n1) (n2) ([]) (ds) ((Sels.cons h5 s5 .nil)) (.slice (some ⟨Y22.heap.size, 0, none⟩) 0 0) (.slice a4 ds.length c4) (.slice (some ⟨g5, 0, none⟩) 1 c5)) := by rw [Hid, hY23]; exact X22.out.setArgs (us' := []) (L := L) (grown_below (grown_refl _ _) bU23) (by omega) (own_made hU23 (Nat.le_refl _))
          rw [hU23] at fx23 yx23
          go_upto_region 15 with fail
          rw [← World.setCell_alloc_past _ _ _ _ ltN23, ← hU23, ← hY23]
          clear hY23 hU23 yx23 fx23 S22 G22 X22 Xm bU23
          obtain ⟨U24, hU24⟩ : ∃ U, U = Y23.alloc (.cells #[] 63) := ⟨_, rfl⟩
          have bU24 : Below Y23.heap.size Y23 U24 := by rw [hU24]; exact (Below.refl _ _).alloc (Nat.le_refl _) _
          have zU24 : U24.heap.size = Y23.heap.size + 1 := by rw [hU24]; simp
          have ltN24 := X23.out.lt
          have Xm : Hid (XS wo.heap.size (w9.heap.size) U24 (1) (n1) (n2) ([]) (ds) ((Sels.cons h5 s5 .nil)) (.slice (some ⟨Y22.heap.size, 0, none⟩) 0 0) (.slice a4 ds.length c4) (.slice (some ⟨g5, 0, none⟩) 1 c5)) := X23.out.below (L := L) bU24 (by omega)
          have fx24 := fun o => row_frozen Xm.out.x o
          have yx24 := fun o => row_cell Xm.out.x o
          obtain ⟨Y24, hY24⟩ : ∃ Y : World, Y = U24.setCell ⟨w9.heap.size, 5, none⟩ (.slice (some ⟨Y23.heap.size, 0, none⟩) 0 0) := ⟨_, rfl⟩
          have zY24 : U24.heap.size ≤ Y24.heap.size := by rw [hY24]; simp [World.setCell]
          have zy24 : Y24.heap.size ≤ U24.heap.size := by rw [hY24]; simp [World.setCell]
          have S24 : Hid (SrcSt Y24 L a n (q + 1 + 1 + 2 + 4 + (1 + 3 * ndRd 2) + 1 + 1)) := by rw [Hid, hY24]; exact (S23.out.move (bU24.block L S23.out.lt)).set (by omega)
          have G24 : Hid (wo.grownBy Y24 (some L)) := by rw [Hid, hY24]; exact grown_new (grown_below G23.out bU24) X23.out.bN _
          have X24 : Hid (XS wo.heap.size (w9.heap.size) Y24 (1) (n1) (n2) ([]) (ds) (.nil) (.slice (some ⟨Y22.heap.size, 0, none⟩) 0 0) (.slice a4 ds.length c4) (.slice (some ⟨Y23.heap.size, 0, none⟩) 0 0)) := by rw [Hid, hY24]; exact X23.out.setSub (L := L) (grown_below (grown_refl _ _) bU24) (by omega) (RowK.made hU24)
          rw [hU24] at fx24 yx24
          go_upto_region 16 with fail
          rw [← World.setCell_alloc_past _ _ _ _ ltN24, ← hU24, ← hY24]
          clear hY24 hU24 yx24 fx24 S23 G23 X23 Xm bU24
          obtain ⟨a8, cap8, TW8, ws8, bk8, hrun, TR8, TS8, TG8⟩ := tail_app R1.out hLw G1.out G24.out S24.out X24.out (by omega)
          have HRUN : Hid _ := hrun
          have TR9 : Hid _ := TR8
          have TS9 : Hid _ := TS8
          have TG9 : Hid _ := TG8
          have TB9 : Hid (SelsBd 40 (app (g ++ [((⟨1, n1, n2, [], ds⟩ : Hd), Sels.nil)]) .nil)) := sels_snoc (m := 40) (h := (⟨1, n1, n2, [], ds⟩ : Hd)) (sub := Sels.nil) ⟨bn1, bn2, Nat.zero_le _, fun x hx => (by cases hx), Nat.le_trans hds (by decide), fun x hx => (hdv x hx).2⟩ (Nat.zero_le _) (trivial) g B1.out
          have TZ9 : Hid ((app (g ++ [((⟨1, n1, n2, [], ds⟩ : Hd), Sels.nil)]) .nil).size ≤ (g ++ [((⟨1, n1, n2, [], ds⟩ : Hd), Sels.nil)]).length * 40) := by
            rw [Hid, size_snoc, List.length_append, List.length_singleton, Nat.succ_mul]
            have := Z1.out
            have h1 : 1 + (Sels.nil).size ≤ 40 := (by decide)
            omega
          have TS10 : Hid (SrcSt TW8 L a n (k + 1 + (g ++ [((⟨1, n1, n2, [], ds⟩ : Hd), Sels.nil)]).length * 460)) := by
            rw [Hid, List.length_append, List.length_singleton, Nat.succ_mul]
            exact SrcSt.more TS9.out (by omega)
          have xk := fun o => row_cell X24.out.x o
          clear hrun TR8 TS8 TG8 B1 Z1 S24 G24 X24 R1 G1 R0 TS9
          go_wp2_with (first | (at_builtin; refine wpList_append_runR rfl _ _ _ rfl _ _ _ _ rfl rfl HRUN.out ?_) | fail)
          exact ⟨⟨j, g ++ [((⟨1, n1, n2, [], ds⟩ : Hd), Sels.nil)], _, _, a8, cap8, by rw [List.length_append, List.length_singleton], by go_num, by rw [List.length_append, List.length_singleton]; omega, by rw [List.length_append, List.length_singleton]; omega, TS10, TG9, TR9, TB9, TZ9⟩, by first | (simp [intOf]; done) | (simp [intOf]; omega)⟩
end Go.Proofs.Ytajjaddlalbnmaa
