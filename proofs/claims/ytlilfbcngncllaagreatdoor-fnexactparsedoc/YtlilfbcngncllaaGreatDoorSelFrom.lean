/- A set in memory from its k-th selection on. -/
import Derived.Test.YtlilfbcngncllaaGreatDoorPdSet
import Derived.Test.YtlilfbcngncllaaGreatDoorPdVal
namespace Go.Proofs.YtlilfbcngncllaaGreatDoor
open Go.ChangeShapes Go.WideShapes Go.ChangeAt Go.RowKit
set_option linter.unusedVariables false

theorem RdSt.c2 {T : TypeId} {x : Value} {w : World} {L c i : Nat} {a : Option Addr} {l : List Tk} (h : RdSt T #[x] w L a c l i) : w.cell? ⟨L, 2, none⟩ = some x := by
  have := row_cell h.cell 2
  rw [this]; rfl
theorem RdSt.f2 {T : TypeId} {x : Value} {w : World} {L c i : Nat} {a : Option Addr} {l : List Tk} (h : RdSt T #[x] w L a c l i) : w.frozen? ⟨L, 2, none⟩ = false := row_frozen h.cell 2
theorem RdSt.put2 {T : TypeId} {x : Value} {w : World} {L c i : Nat} {a : Option Addr} {l : List Tk} (h : RdSt T #[x] w L a c l i) (y : Value) : RdSt T #[y] (w.setCell ⟨L, 2, none⟩ y) L a c l i := by
  refine ⟨?_, h.le, ?_⟩
  · have := row_set h.cell 2 y
    rw [this]
    rfl
  · rcases h.row with h0 | ⟨b, o, rfl, h1, h2, h3⟩
    · exact .inl h0
    · exact .inr ⟨b, o, rfl, h1, h2, fun j' x' hx => by
        have e : G.rdOf (w.setCell ⟨L, 2, none⟩ y) b = G.rdOf w b := by
          funext q
          refine World.cell?_of_block ?_
          exact heap_setCell_other _ _ _ _ (by show b ≠ L; omega)
        rw [e]; exact h3 j' x' hx⟩
theorem pre_nil (R : PR Sels) : R.pre [] = R := by cases R <;> rfl
theorem pre_ok {R : PR Sels} {g : List (Hd × Sels)} {r : List Tk} (h : R = .ok .nil r) : R.pre g = .ok (app g .nil) r := by rw [h]; rfl
theorem info_selS : ∃ i, Tryz.prog.info? 84 = some i ∧ i.zero = some (.agg #[.int .i64 0, .string ⟨#[]⟩, .string ⟨#[]⟩, .slice none 0 0, .slice none 0 0, .slice none 0 0]) ∧ i.size = 6 ∧ i.bytes = 112 := by
  exact info_partsS (by kernel_rfl)
theorem RowK.slice {base : Nat} {W : World} {V : Value} {l : Sels} {ws : List Value} {bk : List Nat} (h : RowK base W V l ws bk) : RowB base W V l := ⟨ws, bk, h⟩
theorem pL1_form {l : List Tk} {d : Nat} (h : pSel d l = .form) (g : List (Hd × Sels)) : (pL1 d l).pre g = .form := by unfold pL1; rw [h]; rfl
theorem pL1_deep {l : List Tk} {d : Nat} (h : pSel d l = .deep) (g : List (Hd × Sels)) : (pL1 d l).pre g = .deep := by unfold pL1; rw [h]; rfl
set_option maxHeartbeats 8000000 in
theorem pd_set (d : Nat) (hsel : ∀ d', d = d' + 1 → SetOk d') : SetOk d := by
  intro s L c i a l w hsd h hl
  obtain ⟨P, HP⟩ : ∃ P, Hid (P = pSet d (l.drop i)) := ⟨_, rfl⟩
  rw [← HP.out]
  rw [pSet_at hl] at HP
  have HG : Hid _ := hl
  have HLN : Hid (l.length ≤ 1048576) := hl.len
  have hLw := h.lt
  have HQ : Hid _ := rd_mustPass 37 #[.int .i64 s] L c i a l ⟨#[123]⟩ w h hl.len
  clear h hl
  go_enter Tryz.func42, Tryz.ntmps42
  go_wp2_with fail
  refine Calls.mono HQ.out ?_
  rintro e w1 ⟨⟨hm, rfl, s1⟩ | ⟨hm, rfl⟩, g1⟩
  case inr =>
    have HE : Hid (P = .form) := by rw [Hid, HP.out, if_neg (by rw [hm]; decide)]
    have G1 : Hid _ := g1
    clear g1 HQ hm
    go_wp2_with fail
    exact ⟨rfl, .inr (.inl ⟨HE.out, rfl⟩), G1.out⟩
  have HP1 : Hid (P = if d = 0 then .deep else pL1 d (l.drop (i + 1))) := by rw [Hid, HP.out, if_pos hm]
  have S1 : Hid _ := s1
  have G1 : Hid _ := g1
  have c2 := s1.c2
  clear hm s1 g1 HQ HP
  cases d with
  | zero =>
    have HE : Hid (P = .deep) := by rw [Hid, HP1.out, if_pos rfl]
    obtain rfl : s = 7 := by omega
    clear HP1
    go_wp2_with fail
    exact ⟨rfl, .inr (.inr ⟨HE.out, rfl⟩), G1.out⟩
  | succ d =>
    have HSET : Hid (SetOk d) := hsel d rfl
    have HP2 : Hid (P = (pL1 (d + 1) (l.drop (i + 1))).pre []) := by rw [Hid, HP1.out, if_neg (by omega), pre_nil]
    have hs7 : ((s : Int) == 7) = false := by simp; omega
    have hs8 : (s : Int) + 1 ≤ 9223372036854775807 := by omega
    have f2 := S1.out.f2
    clear HP1 hsel
    obtain ⟨X, hX⟩ : ∃ X : World, X = w1.setCell ⟨L, 2, none⟩ (.int .i64 ((s : Int) + 1)) := ⟨_, rfl⟩
    have SX : Hid (RdSt 37 #[.int .i64 ((s + 1 : Nat) : Int)] X L a c l (i + 1)) := by rw [Hid, hX, show ((s + 1 : Nat) : Int) = (s : Int) + 1 by omega]; exact S1.out.put2 _
    have GX : Hid (w.grownBy X (some L)) := by rw [Hid, hX]; exact grown_set G1.out _ _
    go_upto_region 5 with fail
    rw [← hX]
    clear hX c2 f2 hs7 hs8 S1 G1
    have hsd' : s + 1 + d = 7 := by omega
    have HQ2 : Hid _ := pd_sel d HSET.out (s + 1) L c (i + 1) a l X hsd' SX.out HG.out
    have zX := GX.out.size
    clear hsd
    go_wp2_with fail
    refine Calls.mono HQ2.out ?_
    rintro e w2 ⟨⟨hd, sub, j, a3, c3, a4, c4, a5, c5, hx, rfl, one, s2⟩ | ⟨hx, rfl⟩ | ⟨hx, rfl⟩, g2⟩
    case inr.inl =>
      have HE : Hid (P = .form) := HP2.out.trans (pL1_form hx [])
      have G2 : Hid (w.grownBy w2 (some L)) := grown_trans GX.out g2
      clear g2 HQ2 hx SX GX HP2
      go_wp2_with fail
      exact ⟨rfl, .inr (.inl ⟨HE.out, rfl⟩), G2.out⟩
    case inr.inr =>
      have HE : Hid (P = .deep) := HP2.out.trans (pL1_deep hx [])
      have G2 : Hid (w.grownBy w2 (some L)) := grown_trans GX.out g2
      clear g2 HQ2 hx SX GX HP2
      go_wp2_with fail
      exact ⟨rfl, .inr (.inr ⟨HE.out, rfl⟩), G2.out⟩
    obtain ⟨ws, bk, O2⟩ := one
    obtain ⟨U, hU⟩ : ∃ U, U = w2.alloc (.cells #[.int .i64 hd.k, .string hd.al, .string hd.nm, .slice a3 hd.args.length c3, .slice a4 hd.dirs.length c4, .slice a5 sub.len c5] 84) := ⟨_, rfl⟩
    have BU : Below w2.heap.size w2 U := by rw [hU]; exact (Below.refl _ _).alloc (Nat.le_refl _) _
    have SU : Hid (RdSt 37 #[.int .i64 ((s + 1 : Nat) : Int)] U L a c l j) := s2.below BU
    have GU : Hid (w.grownBy U (some L)) := grown_below (grown_trans GX.out g2) BU
    have RU : Hid (RowK w.heap.size U (.slice (some ⟨w2.heap.size, 0, none⟩) 1 1) (app [(hd, sub)] .nil) [.int .i64 hd.k, .string hd.al, .string hd.nm, .slice a3 hd.args.length c3, .slice a4 hd.dirs.length c4, .slice a5 sub.len c5] (blk (.slice a3 hd.args.length c3) ++ (blk (.slice a4 hd.dirs.length c4) ++ (blk (.slice a5 sub.len c5) ++ bk)))) := by
      rw [Hid, hU]
      exact RowK.first (O2.low (by omega)) (by have := g2.size; omega)
    have HT : Hid (P = (pL (d + 1) (l.drop j)).pre [(hd, sub)]) := HP2.out.trans (pL1_step hx [])
    have hj := s2.le
    have HJ1 : Hid (1 ≤ j) := by have := drop_lt (r := l) hj (pSel_len hx); unfold Hid; omega
    clear hx s2 g2 HQ2 BU O2 HP2 SX GX
    go_wp2_with fail
    rw [← hU]
    clear hU
    go_loopw [3] (fun v w' => ∃ (k : Nat) (g : List (Hd × Sels)) (ws : List Value) (bk : List Nat) (a' : Option Addr) (c' : Nat), v = .slice a' g.length c' ∧ g.length ≤ k ∧ k ≤ l.length ∧ Hid (RdSt 37 #[.int .i64 ((s + 1 : Nat) : Int)] w' L a c l k) ∧ Hid (w.grownBy w' (some L)) ∧ Hid (RowK w.heap.size w' (.slice a' g.length c') (app g .nil) ws bk) ∧ Hid (P = (pL (d + 1) (l.drop k)).pre g)) (fun _ w' => l.length - rdPos w' L)
    case atStart => exact ⟨j, [(hd, sub)], _, _, _, 1, rfl, HJ1.out, hj, SU, GU, RU, HT⟩
    case round =>
      obtain ⟨k, g, ws, bk, a', c', rfl, hgk, hk, HS, HGR, HO, HM⟩ := hrel
      obtain ⟨wo, rfl⟩ : ∃ z, z = wr := ⟨_, rfl⟩
      have HQ : Hid _ := rd_passes 37 #[.int .i64 ((s + 1 : Nat) : Int)] L c k a l ⟨#[125]⟩ wo HS.out HLN.out
      have HPO : Hid (rdPos wo L = k) := rdPos_of HS.out
      obtain ⟨r, HR⟩ : ∃ r, Hid (r = tkE (nxT l k) ⟨4, 0, ⟨#[125]⟩⟩) := ⟨_, rfl⟩
      rw [← HR.out] at HQ
      go_wp2_with fail
      refine Calls.mono HQ.out ?_
      rintro e w3 ⟨rfl, s3, g3⟩
      have HS3 : Hid _ := s3
      have G3 : Hid (w.grownBy w3 (some L)) := grown_trans HGR.out g3
      have O3 : Hid (RowK w.heap.size w3 (.slice a' g.length c') (app g .nil) ws bk) := HO.out.grow g3 hLw
      clear s3 g3 HQ HS HGR HO
      cases r with
      | true =>
        have HE : Hid (P = .ok (app g .nil) (l.drop (k + 1))) := HM.out.trans (pre_ok (pL_end HG.out HR.out.symm))
        have T3 : Hid (RdSt 37 #[.int .i64 ((s + 1 : Nat) : Int)] w3 L a c l (k + 1)) := HS3.out
        have c2 := T3.out.c2
        have f2 := T3.out.f2
        clear HM HR HS3
        rw [show ((s + 1 : Nat) : Int) = (s : Int) + 1 by omega] at c2
        obtain ⟨Y, hY⟩ : ∃ Y : World, Y = w3.setCell ⟨L, 2, none⟩ (.int .i64 (s : Int)) := ⟨_, rfl⟩
        have SY : Hid (RdSt 37 #[.int .i64 (s : Int)] Y L a c l (k + 1)) := by rw [Hid, hY]; exact T3.out.put2 _
        have GY : Hid (w.grownBy Y (some L)) := by rw [Hid, hY]; exact grown_set G3.out _ _
        have RY : Hid (RowB w.heap.size Y (.slice a' (app g .nil).len c') (app g .nil)) := by
          rw [Hid, hY, show (app g .nil).len = g.length by rw [app_len]; rfl]
          refine (O3.out.keep (((Below.refl L w3).setCell (p := ⟨L, 2, none⟩) (Nat.le_refl _) _).size) fun q hq => heap_setCell_other _ _ _ _ ?_).slice
          have := (O3.out.all q hq).1
          show q ≠ L
          omega
        have hlen : (app g Sels.nil).len = g.length := by rw [app_len]; rfl
        go_upto_region 9 with fail
        first | rw [← hY] | (rw [show (s : Int) + 1 - 1 = s by omega, ← hY])
        clear hY c2 f2 T3 G3 O3
        go_wp2_with fail
        go_ret
        exact ⟨.inl ⟨app g .nil, k + 1, a', c', HE.out, by rw [hlen]; rfl, RY.out, SY.out⟩, GY.out⟩
      | false =>
        have HQ2 : Hid _ := pd_sel d HSET.out (s + 1) L c k a l w3 hsd' HS3.out HG.out
        have HM1 : Hid (P = (pL1 (d + 1) (l.drop k)).pre g) := by rw [Hid, HM.out, pL_go HG.out HR.out.symm]
        clear HM HR
        go_wp2_with fail
        refine Calls.mono HQ2.out ?_
        rintro e w4 ⟨⟨hd2, sub2, q, b3, e3, b4, e4, b5, e5, hy, rfl, one, s4⟩ | ⟨hy, rfl⟩ | ⟨hy, rfl⟩, g4⟩
        case inr.inl =>
          have HE : Hid (P = .form) := HM1.out.trans (pL1_form hy g)
          have G4 : Hid (w.grownBy w4 (some L)) := grown_trans G3.out g4
          clear g4 HQ2 hy HM1
          go_wp2_with fail
          exact ⟨rfl, .inr (.inl ⟨HE.out, rfl⟩), G4.out⟩
        case inr.inr =>
          have HE : Hid (P = .deep) := HM1.out.trans (pL1_deep hy g)
          have G4 : Hid (w.grownBy w4 (some L)) := grown_trans G3.out g4
          clear g4 HQ2 hy HM1
          go_wp2_with fail
          exact ⟨rfl, .inr (.inr ⟨HE.out, rfl⟩), G4.out⟩
        obtain ⟨ws2, bk2, O4⟩ := one
        have hq := s4.le
        have hkq : k < q := drop_lt (r := l) hq (pSel_len hy)
        have HM2 : Hid (P = (pL (d + 1) (l.drop q)).pre (g ++ [(hd2, sub2)])) := HM1.out.trans (pL1_step hy g)
        obtain ⟨U, hU⟩ : ∃ U, U = w4.alloc (.cells #[.int .i64 hd2.k, .string hd2.al, .string hd2.nm, .slice b3 hd2.args.length e3, .slice b4 hd2.dirs.length e4, .slice b5 sub2.len e5] 84) := ⟨_, rfl⟩
        have BU : Below w4.heap.size w4 U := by rw [hU]; exact (Below.refl _ _).alloc (Nat.le_refl _) _
        have cU : U.heap[w4.heap.size]? = some (.cells #[.int .i64 hd2.k, .string hd2.al, .string hd2.nm, .slice b3 hd2.args.length e3, .slice b4 hd2.dirs.length e4, .slice b5 sub2.len e5] 84 (0, 0)) := by rw [hU]; exact heap_alloc_new _ _
        have zU : U.heap.size = w4.heap.size + 1 := by rw [hU]; simp
        have G4 : Hid (w.grownBy U (some L)) := grown_below (grown_trans G3.out g4) BU
        have SU : Hid (RdSt 37 #[.int .i64 ((s + 1 : Nat) : Int)] U L a c l q) := s4.below BU
        have hz3 := G3.out.size
        have hgl : (app g Sels.nil).len = g.length := by rw [app_len]; rfl
        have O5 := ((O3.out.grow g4 hLw).keep BU.size fun x hx => BU.block x ((O3.out.grow g4 hLw).all x hx).2).own
        rw [hgl] at O5
        have z5 := G4.out.size
        have hln := HLN.out
        obtain ⟨ig, hig, hzg, hsg, hbg⟩ := info_selS
        obtain ⟨g8, cap8, W8, hrun, o8, gr8, hat8, hlt8⟩ := run_append_lies (P := Tryz.prog) U 45 45 w.heap.size 84 ig _ 6 112 Tryz.underlying45 hig hzg hsg hbg rfl (by decide) (.slice a' g.length c') g.length ws O5 ⟨w4.heap.size, 0, none⟩ 1 1 [.int .i64 hd2.k, .string hd2.al, .string hd2.nm, .slice b3 hd2.args.length e3, .slice b4 hd2.dirs.length e4, .slice b5 sub2.len e5] rfl (fun t u ht => by
          rw [add_plain]
          have := row_cell cU (0 + t)
          rw [this, ← ht]
          simp) (fun u hu => by
            simp only [List.mem_cons, List.not_mem_nil, or_false] at hu
            rcases hu with rfl | rfl | rfl | rfl | rfl | rfl <;> rfl) (by omega) (by unfold maxLen; omega) (by omega) z5 _ rfl
        have R8 : Hid (RowK w.heap.size W8 (.slice (some ⟨g8, 0, none⟩) (g ++ [(hd2, sub2)]).length cap8) (app (g ++ [(hd2, sub2)]) .nil) (ws ++ [.int .i64 hd2.k, .string hd2.al, .string hd2.nm, .slice b3 hd2.args.length e3, .slice b4 hd2.dirs.length e4, .slice b5 sub2.len e5]) (bk ++ (blk (.slice b3 hd2.args.length e3) ++ (blk (.slice b4 hd2.dirs.length e4) ++ (blk (.slice b5 sub2.len e5) ++ bk2))))) := by
          refine RowK.push O3.out g4 hLw hz3 O4 BU gr8 hat8 ?_
          rw [app_len, List.length_append]
          exact o8
        have hoff : ∀ q, (Value.slice a' g.length c').ownBlock = some q → L < q := fun q hq => by have := (World.ownsRow.lt O5 q hq).1; omega
        have S8 : Hid (RdSt 37 #[.int .i64 ((s + 1 : Nat) : Int)] W8 L a c l q) := SU.out.keep fun t ht => gr8.block t (by have := SU.out.lt; omega) (fun e => by have := hoff t e.symm; omega)
        have G8 : Hid (w.grownBy W8 (some L)) := grown_append G4.out gr8 (fun t ht => (World.ownsRow.lt O5 t ht).1)
        have HP8 : Hid (rdPos W8 L = q) := rdPos_of S8.out
        have HRUN : Hid _ := hrun
        have HU : Hid (U = _) := hU
        clear hln hU hrun o8 gr8 hat8 O5 cU BU g4 s4 HQ2 hy HM1 hoff hig hzg hsg hbg O4 zU hgl
        go_wp2_with (first | (at_builtin; rw [← HU.out]; refine wpList_append_runR rfl _ _ _ rfl _ _ _ _ rfl rfl HRUN.out ?_) | fail)
        exact ⟨⟨q, g ++ [(hd2, sub2)], _, _, some ⟨g8, 0, none⟩, cap8, by simp, by simp; omega, hq, S8, G8, R8, HM2⟩, by rw [HP8.out, HPO.out]; omega⟩
theorem set_ok : ∀ d, SetOk d
  | 0 => pd_set 0 fun d' h => by omega
  | d + 1 => pd_set (d + 1) fun d' h => by
    obtain rfl : d = d' := by omega
    exact set_ok d
end Go.Proofs.YtlilfbcngncllaaGreatDoor
namespace Go.Proofs.YtlilfbcngncllaaGreatDoor
open Go.ChangeShapes Go.WideShapes Go.ChangeAt Go.RowKit
set_option linter.unusedVariables false

def SelFrom (lo hi : Nat) (w : World) (a : Option Addr) (k : Nat) (l : Sels) : Prop :=
  l = .nil ∨ ∃ b o, a = some ⟨b, o, none⟩ ∧ lo ≤ b ∧ b < hi ∧ SelPre lo hi w l (rdOf w b) (o + k * 6) l.len
theorem SelRow.from_ {lo hi : Nat} {w : World} {a : Option Addr} {l : Sels} (h : SelRow lo hi w a l) : SelFrom lo hi w a 0 l := by
  rcases h with h | ⟨b, o, rfl, h1, h2, h3⟩
  · exact .inl h
  · exact .inr ⟨b, o, rfl, h1, h2, by simpa using h3⟩
theorem SelFrom.keep {lo hi : Nat} {w w' : World} {a : Option Addr} {k : Nat} {l : Sels} (h : SelFrom lo hi w a k l) (hk : Agree lo hi w w') : SelFrom lo hi w' a k l := by
  rcases h with h | ⟨b, o, rfl, h1, h2, h3⟩
  · exact .inl h
  · exact .inr ⟨b, o, rfl, h1, h2, by rw [hk.rd h1 h2]; exact h3.keep hk⟩
theorem SelFrom.wide {lo hi lo' hi' : Nat} {w : World} {a : Option Addr} {k : Nat} {l : Sels} (h : SelFrom lo hi w a k l) (e1 : lo' ≤ lo) (e2 : hi ≤ hi') : SelFrom lo' hi' w a k l := by
  rcases h with h | ⟨b, o, rfl, h1, h2, h3⟩
  · exact .inl h
  · exact .inr ⟨b, o, rfl, by omega, by omega, h3.wide e1 e2⟩
/-- The k-th selection's cells, its lists, and the rest. -/
theorem SelFrom.step {lo hi : Nat} {w : World} {a : Option Addr} {k : Nat} {h : Hd} {sub rest : Sels} (H : SelFrom lo hi w a k (.cons h sub rest)) :
    ∃ b o a1 c1 a2 c2 a3 c3, a = some ⟨b, o, none⟩ ∧ lo ≤ b ∧ b < hi ∧ w.cell? ⟨b, o + k * 6, none⟩ = some (.int .i64 h.k) ∧ w.cell? ⟨b, o + k * 6 + 1, none⟩ = some (.string h.al) ∧ w.cell? ⟨b, o + k * 6 + 2, none⟩ = some (.string h.nm) ∧
      w.cell? ⟨b, o + k * 6 + 3, none⟩ = some (.slice a1 h.args.length c1) ∧ w.cell? ⟨b, o + k * 6 + 4, none⟩ = some (.slice a2 h.dirs.length c2) ∧ w.cell? ⟨b, o + k * 6 + 5, none⟩ = some (.slice a3 sub.len c3) ∧
      ArRow lo hi w a1 h.args ∧ DiRow lo hi w a2 h.dirs ∧ SelRow lo hi w a3 sub ∧ SelFrom lo hi w a (k + 1) rest := by
  rcases H with H | ⟨b, o, rfl, h1, h2, h3⟩
  · cases H
  · obtain ⟨⟨p0, p1, p2, ⟨a1, c1, p3, q3⟩, ⟨a2, c2, p4, q4⟩⟩, ⟨a3, c3, p5, q5⟩, p6⟩ := h3.head
    refine ⟨b, o, a1, c1, a2, c2, a3, c3, rfl, h1, h2, p0, p1, p2, p3, p4, p5, q3, q4, q5, ?_⟩
    exact .inr ⟨b, o, rfl, h1, h2, by rw [show o + (k + 1) * 6 = o + k * 6 + 6 by omega]; exact p6⟩
theorem SelFrom.next {lo hi : Nat} {w : World} {a : Option Addr} {k : Nat} {h : Hd} {sub rest : Sels} (H : SelFrom lo hi w a k (.cons h sub rest)) : SelFrom lo hi w a (k + 1) rest := by
  obtain ⟨_, _, _, _, _, _, _, _, _, _, _, _, _, _, _, _, _, _, _, _, hf⟩ := H.step
  exact hf
theorem Row.cells_ar {lo hi : Nat} {w : World} {a : Option Addr} {l : List Ar} (h : ArRow lo hi w a l) (k : Nat) (hk : k < l.length) :
    ∃ b o, a = some ⟨b, o, none⟩ ∧ lo ≤ b ∧ b < hi ∧ w.cell? ⟨b, o + k * 4, none⟩ = some (.string l[k].nm) ∧ w.cell? ⟨b, o + k * 4 + 1, none⟩ = some (.int .i64 l[k].v.k) ∧ w.cell? ⟨b, o + k * 4 + 2, none⟩ = some (.int .i64 l[k].v.n) ∧ w.cell? ⟨b, o + k * 4 + 3, none⟩ = some (.string l[k].v.t) := by
  obtain ⟨b, o, h1, h2, h3, h4, h5, h6, h7⟩ := h.at_ k hk
  exact ⟨b, o, h1, h2, h3, h4, h5, h6, h7⟩
theorem Row.cells_di {lo hi : Nat} {w : World} {a : Option Addr} {l : List Di} (h : DiRow lo hi w a l) (k : Nat) (hk : k < l.length) :
    ∃ b o, a = some ⟨b, o, none⟩ ∧ lo ≤ b ∧ b < hi ∧ w.cell? ⟨b, o + k * 4, none⟩ = some (.bool l[k].sk) ∧ w.cell? ⟨b, o + k * 4 + 1, none⟩ = some (.int .i64 l[k].v.k) ∧ w.cell? ⟨b, o + k * 4 + 2, none⟩ = some (.int .i64 l[k].v.n) ∧ w.cell? ⟨b, o + k * 4 + 3, none⟩ = some (.string l[k].v.t) := by
  obtain ⟨b, o, h1, h2, h3, h4, h5, h6, h7⟩ := h.at_ k hk
  exact ⟨b, o, h1, h2, h3, h4, h5, h6, h7⟩
theorem DeRow.cells {lo hi : Nat} {w : World} {a : Option Addr} {l : List De} (h : DeRow lo hi w a l) (k : Nat) (hk : k < l.length) :
    ∃ b o a3 c3, a = some ⟨b, o, none⟩ ∧ lo ≤ b ∧ b < hi ∧ w.cell? ⟨b, o + k * 4, none⟩ = some (.int .i64 l[k].k) ∧ w.cell? ⟨b, o + k * 4 + 1, none⟩ = some (.string l[k].nm) ∧ w.cell? ⟨b, o + k * 4 + 2, none⟩ = some (.string l[k].on) ∧ w.cell? ⟨b, o + k * 4 + 3, none⟩ = some (.slice a3 l[k].sels.len c3) ∧ SelRow lo hi w a3 l[k].sels := by
  obtain ⟨b, o, h1, h2, h3, h4, h5, h6, ⟨a3, c3, h7, h8⟩⟩ := Row.at_ h k hk
  exact ⟨b, o, a3, c3, h1, h2, h3, h4, h5, h6, h7, h8⟩
/-- Rows in old memory stay behind a call. -/
theorem Row.up {α : Type} {at_ : (Nat → Option Value) → Nat → α → Prop} {z : Nat} {w w' : World} {a : Option Addr} {l : List α} (h : Row at_ z 0 w.heap.size w a l) (hb : Below w.heap.size w w') : Row at_ z 0 w'.heap.size w' a l :=
  (h.keep (Below.agree hb (Nat.le_refl _))).wide (Nat.le_refl _) hb.size
theorem SelRow.up {w w' : World} {a : Option Addr} {l : Sels} (h : SelRow 0 w.heap.size w a l) (hb : Below w.heap.size w w') : SelRow 0 w'.heap.size w' a l :=
  (h.keep (Below.agree hb (Nat.le_refl _))).wide (Nat.le_refl _) hb.size
theorem SelFrom.up {w w' : World} {a : Option Addr} {k : Nat} {l : Sels} (h : SelFrom 0 w.heap.size w a k l) (hb : Below w.heap.size w w') : SelFrom 0 w'.heap.size w' a k l :=
  (h.keep (Below.agree hb (Nat.le_refl _))).wide (Nat.le_refl _) hb.size
theorem DeRow.up {w w' : World} {a : Option Addr} {l : List De} (h : DeRow 0 w.heap.size w a l) (hb : Below w.heap.size w w') : DeRow 0 w'.heap.size w' a l :=
  (h.keep (Below.agree hb (Nat.le_refl _))).wide (Nat.le_refl _) hb.size
end Go.Proofs.YtlilfbcngncllaaGreatDoor
