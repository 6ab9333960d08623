/- The draws: a transaction. -/
import Derived.Test.YtoahbfledamnnaaStFg
import Derived.Test.YtoahbfledamnnaaStStore
import Derived.Deep.CutBlock
import Derived.Deep.CutRange
namespace Go.Proofs.Ytoahbfledamnnaa.G
open Go.ChangeShapes Go.WideShapes Go.ChangeAt Go.RowKit
set_option linter.unusedVariables false

/-- What the operations of the reading tell. -/
def RdPv (L : Nat) (a : Option Addr) (ln c now : Nat) (st : Int) (ra : Option Addr) (rn rq : Nat) (wa : Option Addr) (wn wq : Nat) : Nat → Value → World → Prop
  | 0, y, _ => y = .agg #[.slice a ln c, .int .i64 now]
  | 1, y, _ => y = .agg #[.int .i64 st, .slice ra rn rq, .slice wa wn wq]
  | 2, y, _ => y = .pointer (some ⟨L, 0, none⟩)
  | _, _, _ => True
theorem RdPv.up {L : Nat} {a : Option Addr} {ln c now : Nat} {st : Int} {ra : Option Addr} {rn rq : Nat} {wa : Option Addr} {wn wq : Nat} {W W' : World} {i : Nat} {y : Value} (h : RdPv L a ln c now st ra rn rq wa wn wq i y W) : RdPv L a ln c now st ra rn rq wa wn wq i y W' := by
  unfold RdPv at h ⊢
  split at h <;> exact h
def PtPv (L X : Nat) (wv : Value) : Nat → Value → World → Prop
  | 0, y, _ => y = .pointer (some ⟨X, 2, none⟩)
  | 1, y, _ => y = wv
  | 2, y, _ => y = .pointer (some ⟨L, 0, none⟩)
  | 6, y, _ => y = .pointer (some ⟨X, 2, none⟩)
  | _, _, _ => True
theorem PtPv.up {L X : Nat} {wv : Value} {W W' : World} {i : Nat} {y : Value} (h : PtPv L X wv i y W) : PtPv L X wv i y W' := by
  unfold PtPv at h ⊢
  split at h <;> exact h
theorem rd_dst : ∀ i, i < 10 → ∀ j, j < 10 → [26, 27, 28, 29, 30, 25, 31, 32, 7, 99].getD i 0 = [26, 27, 28, 29, 30, 25, 31, 32, 7, 99].getD j 0 → i = j := by decide
/-- Where the drawing of a transaction stands: it lies in block X, the answer in R, the source in L. -/
def TxIn (w : World) (L X R : Nat) (sa : Option Addr) (n k : Nat) (a : Option Addr) (c : Nat) (l : Chs) (now : Nat) (w' : World) (m : Nat) : Prop :=
  ∃ (st : Int) (rs : List Int) (ws : List Ve) (ra : Option Addr) (rq : Nat) (wv : Value) (kk : Nat), m + ws.length ≤ 5 ∧ kk + 4 * m ≤ k + 22 ∧ w'.heap[X]? = some (.cells #[.int .i64 st, .slice ra rs.length rq, wv] 30 (0, 0)) ∧ NuOwn 0 w'.heap.size w' ra rs ∧ rs.length ≤ rq ∧ w'.ownsRow w.heap.size 43 2 wv ws.length (veCells ws) ∧ txnB l now st rs ws = true ∧ SrcSt w' L sa n kk ∧ w.grownBy w' (some L) ∧ w'.heap[R]? = some (.cells txZ 30 (0, 0)) ∧ w'.heap[w.heap.size]? = some (.cells #[.slice a l.length c, .int .i64 now] 25 (0, 0))
set_option maxHeartbeats 8000000 in
set_option maxRecDepth 40000 in
theorem txn_any (L n k : Nat) (sa a : Option Addr) (c : Nat) (l : Chs) (now : Nat) (w : World) (h : SrcSt w L sa n k) (hr : ByteRow L w sa n) (hk : k ≤ 90000) (hn : n ≤ 1048576) (hs : ChRow 0 L w a l) (hst : storeB l now = true) (hnow : now ≤ 13) :
    Calls Try.prog 35 #[.pointer (some ⟨L, 0, none⟩), .agg #[.slice a l.length c, .int .i64 now]] w fun e w' => (∃ (st : Int) (rs : List Int) (ws : List Ve) (ra : Option Addr) (rq : Nat) (wa : Option Addr) (wq : Nat), e = .returned (.agg #[.int .i64 st, .slice ra rs.length rq, .slice wa ws.length wq]) ∧ (NuOwn 0 w'.heap.size w' ra rs ∧ w'.ownsRow w.heap.size 43 2 (.slice wa ws.length wq) ws.length (veCells ws)) ∧ txnB l now st rs ws = true ∧ rs.length ≤ rq) ∧ w.grownBy w' (some L) := by
  have hL := h.lt
  have hbd := storeB_bd hst
  have h16 := (storeB_all hst).1
  have HE : Hid (ChsBd 1048576 l) := ⟨by omega, fun x hx => by have := hbd x hx; omega⟩
  have H16 : Hid (l.length = 16) := h16
  have HST : Hid (storeB l now = true) := hst
  clear hbd h16 hst
  obtain ⟨wa, hwa⟩ : ∃ x : World, x = (w.alloc (.cells #[.slice a l.length c, .int .i64 now] 25)).alloc (.cells txZ 30) := ⟨_, rfl⟩
  have za : w.heap.size + 2 ≤ wa.heap.size := by rw [hwa]; simp
  have ba : Below w.heap.size w wa := by
    rw [hwa]
    repeat (first | exact Below.refl _ _ | refine Below.alloc ?_ (by first | omega | (simp <;> omega)) _)
  have ca : wa.heap[w.heap.size]? = some (.cells #[.slice a l.length c, .int .i64 now] 25 (0, 0)) := by
    rw [hwa, Below.heap_alloc _ _ _ (by simp)]; exact heap_alloc_new _ _
  have cb : wa.heap[w.heap.size + 1]? = some (.cells txZ 30 (0, 0)) := by
    rw [hwa]
    have := heap_alloc_new (w.alloc (.cells #[.slice a l.length c, .int .i64 now] 25)) (.cells txZ 30)
    simpa using this
  have HS : Hid (SrcSt wa L sa n k) := h.move (ba.block L hL)
  have GA : Hid (w.grownBy wa (some L)) := grown_below (grown_refl _ _) ba
  have CA : Hid _ := ca
  have CB : Hid _ := cb
  have HR0 : Hid _ := hr
  have CH : Hid (∀ W, w.grownBy W (some L) → ChRow 0 W.heap.size W a l) := fun W hg => ChRow.wide (ChRow.keep hs (fun g _ h2 => hg.block g (by omega) (by simp; omega))) (Nat.le_refl _) (by have := hg.size; omega)
  have xa := fun o => row_cell ca o
  clear h hr ba ca cb hs
  go_enter Try.func35, Try.ntmps35
  go_upto_region 1 with fail
  rw [show (#[Value.int IntKind.i64 0, Value.slice none 0 0, Value.slice none 0 0] : Array Value) = txZ from rfl]
  rw [← hwa]
  clear hwa
  go_wp2_with fail
  rw [show (now : Int) + 1 = ((now + 1 : Nat) : Int) by omega]
  refine (next_pos (now + 1) L n k sa _ HS.out (row_keep HR0.out GA.out) (by omega) hn (by omega) (by omega)).mono ?_
  rintro e w1 ⟨⟨st, hst, rfl⟩, s1, g1⟩
  have z1 := g1.size
  have G1 : Hid (w.grownBy w1 (some L)) := grown_trans GA.out g1
  have A1 : Hid _ := (g1.block w.heap.size (by omega) (by simp; omega)).trans CA.out
  have B1 : Hid _ := (g1.block (w.heap.size + 1) (by omega) (by simp; omega)).trans CB.out
  have S1 : Hid _ := s1
  clear s1 g1 HS GA CA CB xa
  obtain ⟨w2, hw2⟩ : ∃ x : World, x = ((w1.alloc (.cells #[] 3)).alloc (.cells #[] 43)).alloc (.cells #[.int .i64 st, .slice (some ⟨w1.heap.size, 0, none⟩) 0 0, .slice (some ⟨w1.heap.size + 1, 0, none⟩) 0 0] 30) := ⟨_, rfl⟩
  have b2 : Below w1.heap.size w1 w2 := by
    rw [hw2]
    repeat (first | exact Below.refl _ _ | refine Below.alloc ?_ (by first | omega | (simp <;> omega)) _)
  have z2 : w1.heap.size + 3 ≤ w2.heap.size := by rw [hw2]; simp
  have c20 : w2.heap[w1.heap.size]? = some (.cells #[] 3 (0, 0)) := by
    rw [hw2, Below.heap_alloc _ _ _ (by simp; omega), Below.heap_alloc _ _ _ (by simp)]; exact heap_alloc_new _ _
  have c21 : w2.heap[w1.heap.size + 1]? = some (.cells #[] 43 (0, 0)) := by
    rw [hw2, Below.heap_alloc _ _ _ (by simp)]
    have := heap_alloc_new (w1.alloc (.cells #[] 3)) (.cells #[] 43)
    simpa using this
  have c22 : w2.heap[w1.heap.size + 1 + 1]? = some (.cells #[.int .i64 st, .slice (some ⟨w1.heap.size, 0, none⟩) 0 0, .slice (some ⟨w1.heap.size + 1, 0, none⟩) 0 0] 30 (0, 0)) := by
    rw [hw2]
    have := heap_alloc_new ((w1.alloc (.cells #[] 3)).alloc (.cells #[] 43)) (.cells #[.int .i64 st, .slice (some ⟨w1.heap.size, 0, none⟩) 0 0, .slice (some ⟨w1.heap.size + 1, 0, none⟩) 0 0] 30)
    simpa using this
  obtain ⟨X, hX⟩ : ∃ X, X = w1.heap.size + 1 + 1 := ⟨_, rfl⟩
  obtain ⟨R, hR⟩ : ∃ R, R = w.heap.size + 1 := ⟨_, rfl⟩
  have I2 : Hid (∀ (W : World) (m : Nat), m < 6 → w2.grownBy W (some L) → SrcSt W L sa n (k + 2) → TxIn w L X R sa n k a c l now W m) := fun W m hm hg hS => by
    have hz := hg.size
    have ok : ∀ g, g < w2.heap.size → g ≠ L → W.heap[g]? = w2.heap[g]? := fun g h1 h2 => hg.block g h1 (by simpa using h2)
    refine ⟨st, [], [], some ⟨w1.heap.size, 0, none⟩, 0, .slice (some ⟨w1.heap.size + 1, 0, none⟩) 0 0, k + 2, by simp; omega, by omega, ?_, .inl rfl, Nat.le_refl _, ?_, ?_, hS, ?_, ?_, ?_⟩
    · rw [hX]; exact (ok _ (by omega) (by omega)).trans c22
    · exact ⟨rfl, .inr ⟨w1.heap.size + 1, 0, #[], rfl, by omega, (ok _ (by omega) (by omega)).trans c21, Nat.le_refl _, Nat.zero_le _, rfl, rfl⟩⟩
    · exact tx_none HST.out (by omega) (by omega)
    · exact grown_trans (grown_below G1.out b2) hg
    · rw [hR]; exact (ok _ (by omega) (by omega)).trans ((b2.block _ (by omega)).trans B1.out)
    · exact (ok _ (by omega) (by omega)).trans ((b2.block _ (by omega)).trans A1.out)
  have S2 : Hid (SrcSt w2 L sa n (k + 1)) := SrcSt.move S1.out (b2.block L (by omega))
  have G2 : Hid (w.grownBy w2 (some L)) := grown_below G1.out b2
  have hXR : w.heap.size + 2 ≤ X := by omega
  have hX2 : X < w2.heap.size := by omega
  have hRw : w.heap.size < R ∧ R < X := by omega
  clear c20 c21 c22 b2
  go_upto_region 2 with fail
  rw [← hw2, ← hX, ← hR]
  clear hw2 hX hR
  go_wp2_with fail
  refine (next_any 6 L n (k + 1) sa _ S2.out (row_keep HR0.out G2.out) (by omega) hn (by omega) (by omega)).mono ?_
  rintro e w3 ⟨⟨q, hq, rfl⟩, s3, g3⟩
  have I3 : Hid (TxIn w L X R sa n k a c l now w3 q) := I2.out _ _ (by omega) g3 s3
  have z3 := g3.size
  clear s3 g3 I2 S2 G2 S1 G1 A1 B1
  go_wp2_with fail
  go_loopw [6] (fun i w' => ∃ (m : Nat), i = .int .i64 m ∧ Hid (TxIn w L X R sa n k a c l now w' m)) (fun i _ => (intOf i).toNat)
  case atStart => exact ⟨q, rfl, I3⟩
  case round =>
    obtain ⟨wo, rfl⟩ : ∃ x, x = wr := ⟨_, rfl⟩
    obtain ⟨m, rfl, HI⟩ := hrel
    obtain ⟨st', rs, ws, ra, rq, wv, kk, i1, i2, i3, i4, i5, i6, i7, i8, i9, i10, i11⟩ := HI.out
    have E3 : Hid _ := i3
    have E4 : Hid _ := i4
    have E6 : Hid _ := i6
    have E7 : Hid _ := i7
    have E8 : Hid _ := i8
    have E9 : Hid _ := i9
    have E10 : Hid _ := i10
    have E11 : Hid _ := i11
    have zo := i9.size
    have hXl : X < wo.heap.size := (Array.getElem?_eq_some_iff.1 i3).1
    have hRl : R < wo.heap.size := (Array.getElem?_eq_some_iff.1 i10).1
    obtain ⟨wa', wq, hwv, hwr⟩ := own_veRow i6
    have WR : Hid _ := hwr
    clear i3 i4 i6 i7 i8 i9 i10 i11 HI hwr I3
    by_cases h0 : 0 < m
    case neg =>
      obtain rfl : m = 0 := by omega
      subst hwv
      have x0 := fun o => row_cell E3.out o
      have x1 := fun o => row_cell E10.out o
      have y1 := fun o => row_frozen E10.out o
      go_wp2_with fail
      refine bodyPost_ret (v := .agg #[.int .i64 st', .slice ra rs.length rq, .slice wa' ws.length wq]) (by simp [results, Try.results35, go_sem, x1]) rfl ⟨⟨st', rs, ws, ra, rq, wa', wq, rfl, ⟨?_, ?_⟩, E7.out, i5⟩, ?_⟩
      · have h1 := NuOwn.kept2 E4.out (W' := ((wo.setCell ⟨R, 0, none⟩ (.int .i64 st')).setCell ⟨R, 1, none⟩ (.slice ra rs.length rq)).setCell ⟨R, 2, none⟩ (.slice wa' ws.length wq)) (by simp) (fun g cs hc => by
          have : g ≠ R := by rintro rfl; rw [E10.out] at hc; simp at hc
          rw [heap_set _ _ _ _ _ this, heap_set _ _ _ _ _ this, heap_set _ _ _ _ _ this])
        exact h1
      · have h1 := own_set E6.out (w' := ((wo.setCell ⟨R, 0, none⟩ (.int .i64 st')).setCell ⟨R, 1, none⟩ (.slice ra rs.length rq)).setCell ⟨R, 2, none⟩ (.slice wa' ws.length wq)) (fun g hg => by
          have : g ≠ R := by
            rintro rfl
            rcases E6.out.2 with ⟨e1, _⟩ | ⟨ga, ca, cua, ea, _, ha, _⟩
            · rw [e1] at hg; cases hg
            · rw [ea] at hg
              simp only [Value.ownBlock, Option.some.injEq] at hg
              subst hg
              rw [E10.out] at ha; simp at ha
          rw [heap_set _ _ _ _ _ this, heap_set _ _ _ _ _ this, heap_set _ _ _ _ _ this])
        exact h1
      · exact grown_far (grown_far (grown_far E9.out (by omega) _ _) (by omega) _ _) (by omega) _ _
    have h0' : (0 : Int) < m := by omega
    go_wp2_with fail
    refine (chance_any 2 L n kk sa _ E8.out (row_keep HR0.out E9.out) (by omega) hn (by omega) (by omega)).mono ?_
    rintro e w9 ⟨⟨bb, rfl⟩, s9, g9⟩
    have z9 := g9.size
    have ok9 : ∀ (g : Nat) (cs : Array Value) (T : TypeId), wo.heap[g]? = some (.cells cs T (0, 0)) → T ≠ 78 → w9.heap[g]? = wo.heap[g]? := fun g cs T hg hT => g9.block g (Array.getElem?_eq_some_iff.1 hg).1 (by have := SrcSt.ne E8.out hg hT; simpa using this)
    have K3 : Hid _ := (ok9 _ _ _ E3.out (by decide)).trans E3.out
    have K4 : Hid (NuOwn 0 w9.heap.size w9 ra rs) := NuOwn.kept2 E4.out g9.size (fun g cs hc => ok9 g cs _ hc (by decide))
    have K6 : Hid (w9.ownsRow w.heap.size 43 2 wv ws.length (veCells ws)) := own_set E6.out (fun g hg => by
      rcases E6.out.2 with ⟨e1, _⟩ | ⟨ga, ca, cua, ea, _, ha, _⟩
      · rw [e1] at hg; cases hg
      · rw [ea] at hg
        simp only [Value.ownBlock, Option.some.injEq] at hg
        subst hg
        exact ok9 _ _ _ ha (by decide))
    have K8 : Hid _ := s9
    have K9 : Hid (w.grownBy w9 (some L)) := grown_trans E9.out g9
    have K10 : Hid _ := (ok9 _ _ _ E10.out (by decide)).trans E10.out
    have K11 : Hid _ := (ok9 _ _ _ E11.out (by decide)).trans E11.out
    clear s9 g9 ok9 E3 E4 E6 E8 E9 E10 E11 WR
    subst hwv
    cases bb
    case true =>
      go_upto_region 6 with fail
      refine region_rel5 (n := 10) (k := 1) (by omega) (by kernel_rfl) (by kernel_rfl) (by kernel_rfl) (fun u => ⟨#[.pointer (some ⟨L, 0, none⟩), .agg #[.slice a l.length c, .int .i64 now], undef, .pointer (some ⟨w.heap.size, 0, none⟩), .pointer (some ⟨R, 0, none⟩), .pointer (some ⟨X, 0, none⟩), .int .i64 m, u 7, u8, .pointer (some ⟨L, 0, none⟩), .pointer (some ⟨w.heap.size, 1, none⟩), .int .i64 now, .int .i64 ((now : Int) + 1), .int .i64 st, .slice (some ⟨w1.heap.size, 0, none⟩) 0 0, .slice (some ⟨w1.heap.size + 1, 0, none⟩) 0 0, .agg #[.int .i64 st, .slice (some ⟨w1.heap.size, 0, none⟩) 0 0, .slice (some ⟨w1.heap.size + 1, 0, none⟩) 0 0], .pointer (some ⟨L, 0, none⟩), .int .i64 q, .int .i64 m, .bool true, u21, u22, .pointer (some ⟨L, 0, none⟩), .bool true, u 25, u 26, u 27, u 28, u 29, u 30, u 31, u 32, u33, u34, u35, u36, u37, u38, u39, u40, undef], []⟩) (fun n => match n with | 7 => u7 | 25 => u25 | 26 => u26 | 27 => u27 | 28 => u28 | 29 => u29 | 30 => u30 | 31 => u31 | 32 => u32 | _ => undef) (fun i => [26, 27, 28, 29, 30, 25, 31, 32, 7, 99].getD i 0) (fun i j hi hj h => rd_dst i hi j hj h)
        (RdPv L a l.length c now st' ra rs.length rq wa' ws.length wq) (RdJ w9 L sa n (kk + 1) st' rs ws (.slice wa' ws.length wq)) (RdJ.start K8.out) ?step ?last
      case step =>
        intro D u W i hi hLs hLi hj hdep
        have hzW := hj.grown.size
        have oldb : ∀ (g : Nat) (cs : Array Value) (T : TypeId), w9.heap[g]? = some (.cells cs T (0, 0)) → T ≠ 78 → W.heap[g]? = w9.heap[g]? := fun g cs T hg hT => hj.grown.block g (Array.getElem?_eq_some_iff.1 hg).1 (by have := SrcSt.ne K8.out hg hT; simpa using this)
        have hcase : i = 0 ∨ i = 1 ∨ i = 2 ∨ i = 3 ∨ i = 4 ∨ i = 5 ∨ i = 6 ∨ i = 7 ∨ i = 8 ∨ i = 9 := by omega
        rcases hcase with rfl | rfl | rfl | rfl | rfl | rfl | rfl | rfl | rfl | rfl
        · have x6 := fun o => row_cell ((oldb _ _ _ K11.out (by decide)).trans K11.out) o
          refine wpOp_step rfl (fun K hK => ?_)
          clear hdep
          go_simp
          exact hK _ _ ⟨_, rfl, fun _ _ h => RdPv.up h, rfl, hj.step (by omega) (by simp)⟩
        · have x6 := fun o => row_cell ((oldb _ _ _ K3.out (by decide)).trans K3.out) o
          refine wpOp_step rfl (fun K hK => ?_)
          clear hdep
          go_simp
          exact hK _ _ ⟨_, rfl, fun _ _ h => RdPv.up h, rfl, hj.step (by omega) (by simp)⟩
        · refine wpOp_step rfl (fun K hK => ?_)
          clear hdep
          go_simp
          exact hK _ _ ⟨_, rfl, fun _ _ h => RdPv.up h, rfl, hj.step (by omega) (by simp)⟩
        · have d2 : u 28 = .pointer (some ⟨L, 0, none⟩) := (hdep _ rfl ⟨2, .data⟩ (by simp) rfl).2
          have l3 : D.getD 3 false = false := by
            cases h8 : D.getD 3 false
            · rfl
            · rw [getD_both (by omega) h8] at hLi; cases hLi
          have HSW : Hid _ := hj.s0 l3
          have HRW : Hid _ := row_keep HR0.out (grown_trans K9.out hj.grown)
          have HJ : Hid _ := hj
          refine wpOp_step rfl (fun K hK => ?_)
          clear hdep
          go_simp
          refine (next_any 16 L n _ sa _ HSW.out HRW.out (by omega) hn (by omega) (by omega)).mono ?_
          rintro e w8 ⟨⟨t, ht, rfl⟩, s8, g8⟩
          exact hK _ _ ⟨.int .i64 t, by simp [upd, d2], fun _ _ h => RdPv.up h, trivial, RdJ.three HJ.out g8 (by omega) ht s8⟩
        · have d0 : u 26 = .agg #[.slice a l.length c, .int .i64 now] := (hdep _ rfl ⟨0, .data⟩ (by simp) rfl).2
          have d1 : u 27 = .agg #[.int .i64 st', .slice ra rs.length rq, .slice wa' ws.length wq] := (hdep _ rfl ⟨1, .data⟩ (by simp) rfl).2
          have l3 := (hdep _ rfl ⟨3, .data⟩ (by simp) rfl).1
          have l4 : D.getD 4 false = false := by
            cases h8 : D.getD 4 false
            · rfl
            · rw [getD_both (by omega) h8] at hLi; cases hLi
          obtain ⟨t, ht, d3⟩ := (hj.s1 l3).2
          have HNW : Hid (NuOwn 0 W.heap.size W ra rs) := NuOwn.kept2 K4.out hzW (fun g cs hc => oldb g cs _ hc (by decide))
          have hvw : VeRow 0 W.heap.size W wa' ws := by
            obtain ⟨a9, c9, e9, r9⟩ := own_veRow (own_set K6.out (w' := W) (fun g hg => by
              rcases K6.out.2 with ⟨e1, _⟩ | ⟨ga, ca, cua, ea, _, ha, _⟩
              · rw [e1] at hg; cases hg
              · rw [ea] at hg
                simp only [Value.ownBlock, Option.some.injEq] at hg
                subst hg
                exact oldb _ _ _ ha (by decide)))
            simp only [Value.slice.injEq] at e9
            rw [e9.1]; exact r9
          have HVW : Hid _ := hvw
          have HCW : Hid _ := CH.out _ (grown_trans K9.out hj.grown)
          have HTB : Hid (TxBd 1048576 rs ws) := ⟨by have := readsB_len (txnB_all E7.out).2.2.2; omega, by omega⟩
          have HJ : Hid _ := hj
          refine wpOp_step rfl (fun K hK => ?_)
          clear hdep hvw
          go_simp
          refine (spec_rd2 a ra wa' c rq wq l now st' rs ws t _ HCW.out HE.out ⟨HNW.out.row0, HVW.out⟩ HTB.out i5 H16.out ht).mono ?_
          rintro e w8 ⟨⟨ra8, rq8, rfl, h81, h82⟩, b8⟩
          have h83 : NuOwn 0 w8.heap.size w8 ra8 (rdK rs ws t) := by
            rcases h81 with h | ⟨h1, h2⟩
            · exact NuOwn.wide h (Nat.zero_le _) (Nat.le_refl _)
            · rw [h1, h2]
              exact NuOwn.kept2 HNW.out b8.size (fun g cs hc => b8.block g (Array.getElem?_eq_some_iff.1 hc).1)
          exact hK _ _ ⟨rdTup st' ra8 (rdK rs ws t).length rq8 (.slice wa' ws.length wq) (rdV l st' ws t), by simp [upd, d0, d1, d3, rdTup], fun _ _ h => RdPv.up h, trivial, RdJ.four HJ.out b8 l4 ht h83 h82⟩
        · have l4 := (hdep _ rfl ⟨4, .data⟩ (by simp) rfl).1
          have HJ : Hid _ := hj
          refine wpOp_step rfl (fun K hK => ?_)
          clear hdep
          go_simp
          exact hK _ _ ⟨u 30, rfl, fun _ _ h => RdPv.up h, trivial, RdJ.five HJ.out l4⟩
        · have l5 := (hdep _ rfl ⟨5, .data⟩ (by simp) rfl).1
          obtain ⟨e25, l4⟩ := hj.m5 l5
          obtain ⟨x, z, h30, hx⟩ : ∃ (x z : Value), u 30 = .tuple #[x, z] ∧ u 25 = .tuple #[x, z] := by
            obtain ⟨t, ra8, rq8, z, _, h4, _⟩ := hj.rd l4
            exact ⟨_, _, h4, e25.trans h4⟩
          have HJ : Hid _ := hj
          refine wpOp_step rfl (fun K hK => ?_)
          clear hdep e25
          go_simp
          exact hK _ _ ⟨x, by simp [upd, hx, h30], fun _ _ h => RdPv.up h, trivial, RdJ.six HJ.out l4 h30⟩
        · have l5 := (hdep _ rfl ⟨5, .data⟩ (by simp) rfl).1
          obtain ⟨e25, l4⟩ := hj.m5 l5
          obtain ⟨x, z, h30, hx⟩ : ∃ (x z : Value), u 30 = .tuple #[x, z] ∧ u 25 = .tuple #[x, z] := by
            obtain ⟨t, ra8, rq8, z, _, h4, _⟩ := hj.rd l4
            exact ⟨_, _, h4, e25.trans h4⟩
          have HJ : Hid _ := hj
          refine wpOp_step rfl (fun K hK => ?_)
          clear hdep e25
          go_simp
          exact hK _ _ ⟨z, by simp [upd, hx, h30], fun _ _ h => RdPv.up h, trivial, RdJ.step HJ.out (by omega) (by simp)⟩
        · have l8 : D.getD 8 false = false := by
            cases h8 : D.getD 8 false
            · rfl
            · rw [getD_both (by omega) h8] at hLi; cases hLi
          have HJ : Hid _ := hj
          refine wpOp_step rfl (fun K hK => ?_)
          clear hdep
          go_simp
          exact hK _ _ ⟨.pointer (some ⟨W.heap.size, 0, none⟩), rfl, fun _ _ h => RdPv.up h, trivial, RdJ.eight HJ.out ((Below.refl _ _).alloc (Nat.le_refl _) _) l8 (heap_alloc_new _ _)⟩
        · have l8 := (hdep _ rfl ⟨8, .data⟩ (by simp) rfl).1
          have l6 := (hdep _ rfl ⟨6, .data⟩ (by simp) rfl).1
          obtain ⟨⟨x, z, h30, h31⟩, l4⟩ := hj.m6 l6
          have l9 : D.getD 9 false = false := by
            cases h8 : D.getD 9 false
            · rfl
            · rw [getD_both (by omega) h8] at hLi; cases hLi
          obtain ⟨y, q1, q2, q3⟩ := hj.vr l8 l9
          obtain ⟨t, ra8, rq8, z', q4, q5, q6, q7, _⟩ := hj.rd l4
          have hxe : x = .agg #[.int .i64 st', .slice ra8 (rdK rs ws t).length rq8, .slice wa' ws.length wq] := by
            rw [h30] at q5
            simp only [rdTup, Value.tuple.injEq, Array.mk.injEq, List.cons.injEq] at q5
            exact q5.1
          subst hxe
          obtain ⟨W2, hW2⟩ : ∃ x : World, x = ((W.setCell ⟨y, 0, none⟩ (.int .i64 st')).setCell ⟨y, 1, none⟩ (.slice ra8 (rdK rs ws t).length rq8)).setCell ⟨y, 2, none⟩ (.slice wa' ws.length wq) := ⟨_, rfl⟩
          have hc2 : W2.heap[y]? = some (.cells #[.int .i64 st', .slice ra8 (rdK rs ws t).length rq8, .slice wa' ws.length wq] 30 (0, 0)) := by
            have := row_set (row_set (row_set q3 0 (.int .i64 st')) 1 (.slice ra8 (rdK rs ws t).length rq8)) 2 (.slice wa' ws.length wq)
            rw [hW2]; simpa using this
          have HJ2 : Hid (∀ val, RdJ w9 L sa n (kk + 1) st' rs ws (.slice wa' ws.length wq) (D.setIfInBounds 9 true) (upd u 99 val) W2) := fun val => RdJ.nine hj (by omega) l8 l9 q4 q1 q2 q3 l4 q5 q6 q7 (fun g hg => by rw [hW2, heap_set _ _ _ _ _ hg, heap_set _ _ _ _ _ hg, heap_set _ _ _ _ _ hg]) (by rw [hW2]; simp) (by rw [hW2]; exact grown_far (grown_far (grown_far hj.grown q2 _ _) q2 _ _) q2 _ _) hc2
          have x6 := fun o => row_cell q3 o
          have y6 := fun o => row_frozen q3 o
          have HW2 : Hid _ := hW2
          refine wpOp_step rfl (fun K hK => ?_)
          clear hdep hc2 q3 q5 q6 q7 h30 hW2
          go_simp
          rw [← HW2.out]
          exact hK _ _ ⟨undef, by simp [upd, q1, h31], fun _ _ h => RdPv.up h, trivial, HJ2.out _⟩
      case last =>
        intro D u W hLs hD hj hp
        obtain ⟨t, ra8, rq8, z, q4, q5, q6, q7, q8⟩ := hj.rd (hD 4 (by omega))
        obtain ⟨y, y1, y2, y3⟩ := q8 (hD 9 (by omega))
        have QS : SrcSt W L sa n (kk + 1 + 1) := (hj.s1 (hD 3 (by omega))).1
        have QG := hj.grown
        have hzW := QG.size
        have hyl := (Array.getElem?_eq_some_iff.1 y3).1
        have oldb : ∀ (g : Nat) (cs : Array Value) (T : TypeId), w9.heap[g]? = some (.cells cs T (0, 0)) → T ≠ 78 → W.heap[g]? = w9.heap[g]? := fun g cs T hg hT => QG.block g (Array.getElem?_eq_some_iff.1 hg).1 (by have := SrcSt.ne K8.out hg hT; simpa using this)
        have cX := (oldb _ _ _ K3.out (by decide)).trans K3.out
        have cR := (oldb _ _ _ K10.out (by decide)).trans K10.out
        have cS := (oldb _ _ _ K11.out (by decide)).trans K11.out
        have oW : W.ownsRow w.heap.size 43 2 (.slice wa' ws.length wq) ws.length (veCells ws) := own_set K6.out (fun g hg => by
          rcases K6.out.2 with ⟨e1, _⟩ | ⟨ga, ca, cua, ea, _, ha, _⟩
          · rw [e1] at hg; cases hg
          · rw [ea] at hg
            simp only [Value.ownBlock, Option.some.injEq] at hg
            subst hg
            exact oldb _ _ _ ha (by decide))
        obtain ⟨W2, hW2⟩ : ∃ x : World, x = ((W.setCell ⟨X, 0, none⟩ (.int .i64 st')).setCell ⟨X, 1, none⟩ (.slice ra8 (rdK rs ws t).length rq8)).setCell ⟨X, 2, none⟩ (.slice wa' ws.length wq) := ⟨_, rfl⟩
        have hk2 : ∀ g, g ≠ X → W2.heap[g]? = W.heap[g]? := fun g hg => by rw [hW2, heap_set _ _ _ _ _ hg, heap_set _ _ _ _ _ hg, heap_set _ _ _ _ _ hg]
        have hz2 : W2.heap.size = W.heap.size := by rw [hW2]; simp
        have HF : Hid (TxIn w L X R sa n k a c l now W2 (m - 1)) := by
          refine ⟨st', rdK rs ws t, ws, ra8, rq8, .slice wa' ws.length wq, kk + 1 + 1, by omega, by omega, ?_, ?_, q7, ?_, tx_rdK E7.out ⟨by omega, by omega⟩, ?_, ?_, ?_, ?_⟩
          · have := row_set (row_set (row_set cX 0 (.int .i64 st')) 1 (.slice ra8 (rdK rs ws t).length rq8)) 2 (.slice wa' ws.length wq)
            rw [hW2]; simpa using this
          · exact NuOwn.kept2 q6 (by omega) (fun g cs hc => hk2 g (by rintro rfl; rw [cX] at hc; simp at hc))
          · exact own_set oW (fun g hg => hk2 g (by
              rintro rfl
              rcases oW.2 with ⟨e1, _⟩ | ⟨ga, ca, cua, ea, _, ha, _⟩
              · rw [e1] at hg; cases hg
              · rw [ea] at hg
                simp only [Value.ownBlock, Option.some.injEq] at hg
                subst hg
                rw [cX] at ha; simp at ha))
          · exact SrcSt.move QS (hk2 L (by omega))
          · rw [hW2]; exact grown_far (grown_far (grown_far (grown_trans K9.out QG) (by omega) _ _) (by omega) _ _) (by omega) _ _
          · exact (hk2 R (by omega)).trans cR
          · exact (hk2 _ (by omega)).trans cS
        have x1 := fun o => row_cell y3 o
        have x2 := fun o => row_cell cX o
        have f2 := fun o => row_frozen cX o
        have HW2 : Hid _ := hW2
        clear hp hj q5 q6 q7 q8 y3 cX cR cS oW hk2 hz2 hW2 oldb QS QG
        unfold wpTail
        refine wpOp_step rfl (fun K hK => ?_)
        go_simp
        refine hK _ _ ?_
        clear hK
        unfold wpTail
        skip
        go_wp2_with fail
        rw [← HW2.out]
        exact ⟨⟨m - 1, by go_num, HF⟩, by simp [intOf]; omega⟩
    case false =>
      go_upto_region 8 with fail
      refine region_rel5 (n := 7) (k := 1) (by omega) (by kernel_rfl) (by kernel_rfl) (by kernel_rfl) (fun u => ⟨#[.pointer (some ⟨L, 0, none⟩), .agg #[.slice a l.length c, .int .i64 now], undef, .pointer (some ⟨w.heap.size, 0, none⟩), .pointer (some ⟨R, 0, none⟩), .pointer (some ⟨X, 0, none⟩), .int .i64 m, u7, u8, .pointer (some ⟨L, 0, none⟩), .pointer (some ⟨w.heap.size, 1, none⟩), .int .i64 now, .int .i64 ((now : Int) + 1), .int .i64 st, .slice (some ⟨w1.heap.size, 0, none⟩) 0 0, .slice (some ⟨w1.heap.size + 1, 0, none⟩) 0 0, .agg #[.int .i64 st, .slice (some ⟨w1.heap.size, 0, none⟩) 0 0, .slice (some ⟨w1.heap.size + 1, 0, none⟩) 0 0], .pointer (some ⟨L, 0, none⟩), .int .i64 q, .int .i64 m, .bool true, u21, u22, .pointer (some ⟨L, 0, none⟩), .bool false, u25, u26, u27, u28, u29, u30, u31, u32, u33, u 34, u 35, u 36, u 37, u 38, u 39, u 40, undef], []⟩) (fun n => match n with | 34 => u34 | 35 => u35 | 36 => u36 | 37 => u37 | 38 => u38 | 39 => u39 | 40 => u40 | _ => undef) (fun i => 34 + i) (fun i j _ _ h => by omega)
        (PtPv L X (.slice wa' ws.length wq)) (PtJ w L X R #[.slice a l.length c, .int .i64 now] sa n (kk + 1) st' rs ra rq ws (.slice wa' ws.length wq)) (PtJ.start K9.out K3.out K10.out K11.out K4.out K8.out K6.out) ?step ?last
      case step =>
        intro D u W i hi hLs hLi hj hdep
        have hzW := hj.grown.size
        have hcase : i = 0 ∨ i = 1 ∨ i = 2 ∨ i = 3 ∨ i = 4 ∨ i = 5 ∨ i = 6 := by omega
        rcases hcase with rfl | rfl | rfl | rfl | rfl | rfl | rfl
        · refine wpOp_step rfl (fun K hK => ?_)
          clear hdep
          go_simp
          exact hK _ _ ⟨_, rfl, fun _ _ h => PtPv.up h, rfl, hj.step (by omega) (by simp)⟩
        · have d0 : u 34 = .pointer (some ⟨X, 2, none⟩) := (hdep _ rfl ⟨0, .data⟩ (by simp) rfl).2
          have x6 := fun o => row_cell hj.tx o
          refine wpOp_step rfl (fun K hK => ?_)
          clear hdep
          go_simp
          exact hK _ _ ⟨_, by simp [upd, d0], fun _ _ h => PtPv.up h, rfl, hj.step (by omega) (by simp)⟩
        · refine wpOp_step rfl (fun K hK => ?_)
          clear hdep
          go_simp
          exact hK _ _ ⟨_, rfl, fun _ _ h => PtPv.up h, rfl, hj.step (by omega) (by simp)⟩
        · have d2 : u 36 = .pointer (some ⟨L, 0, none⟩) := (hdep _ rfl ⟨2, .data⟩ (by simp) rfl).2
          have l3 : D.getD 3 false = false := by
            cases h8 : D.getD 3 false
            · rfl
            · rw [getD_both (by omega) h8] at hLi; cases hLi
          have HSW : Hid _ := hj.s0 l3
          have HRW : Hid _ := row_keep HR0.out hj.grown
          have HJ : Hid _ := hj
          refine wpOp_step rfl (fun K hK => ?_)
          clear hdep
          go_simp
          refine (put_any L n _ sa _ HSW.out HRW.out (by omega) hn).mono ?_
          rintro e w8 ⟨⟨p8, rfl, hp8⟩, s8, g8⟩
          exact hK _ _ ⟨.agg #[.int .i64 p8.ts, .int .i64 p8.v], by simp [upd, d2], fun _ _ h => PtPv.up h, trivial, PtJ.three HJ.out g8 (by omega) l3 hp8 s8⟩
        · have l3 := (hdep _ rfl ⟨3, .data⟩ (by simp) rfl).1
          have l4 : D.getD 4 false = false := by
            cases h8 : D.getD 4 false
            · rfl
            · rw [getD_both (by omega) h8] at hLi; cases hLi
          obtain ⟨p8, d3, hp8⟩ := (hj.s1 l3).2
          have HJ : Hid _ := hj
          refine wpOp_step rfl (fun K hK => ?_)
          clear hdep
          go_simp
          exact hK _ _ ⟨.slice (some ⟨W.heap.size, 0, none⟩) 1 1, by simp [upd, d3], fun _ _ h => PtPv.up h, trivial, PtJ.four HJ.out ((Below.refl _ _).alloc (Nat.le_refl _) _) (by omega) l4 l3 hp8 (heap_alloc_new _ _)⟩
        · have d1 : u 35 = .slice wa' ws.length wq := (hdep _ rfl ⟨1, .data⟩ (by simp) rfl).2
          have l4 := (hdep _ rfl ⟨4, .data⟩ (by simp) rfl).1
          have l5 : D.getD 5 false = false := by
            cases h8 : D.getD 5 false
            · rfl
            · rw [getD_both (by omega) h8] at hLi; cases hLi
          obtain ⟨p8, h, hp8, d4, hh⟩ := hj.one l4 l5
          obtain ⟨g, cap, W', hrun, o1, o2, o3⟩ := app_put ws p8 (.slice wa' ws.length wq) w.heap.size h W (hj.own l5) hh (by omega) hzW
          have HJ6 : Hid _ := PtJ.five hj hL (by omega) l5 l4 o2 hp8 o1
          clear hdep o1 o2 o3
          refine wpOp_step rfl (fun K hK => ?_)
          refine wp_append_run (.tmp 35) (.tmp 38) _ rfl _ _ _ _ d1 d4 hrun ?_
          exact hK _ _ ⟨_, rfl, fun _ _ h => PtPv.up h, trivial, HJ6.out⟩
        · refine wpOp_step rfl (fun K hK => ?_)
          clear hdep
          go_simp
          exact hK _ _ ⟨_, rfl, fun _ _ h => PtPv.up h, rfl, hj.step (by omega) (by simp)⟩
      case last =>
        intro D u W hLs hD hj hp
        have d6 : u 40 = .pointer (some ⟨X, 2, none⟩) := hp 6 (by omega)
        obtain ⟨p8, g8, cap8, hp8, d5, o8⟩ := hj.app (hD 5 (by omega))
        have QS : SrcSt W L sa n (kk + 1 + 3) := (hj.s1 (hD 3 (by omega))).1
        have hzW := hj.grown.size
        have cX := hj.tx
        have hXW := (Array.getElem?_eq_some_iff.1 cX).1
        have cS : W.heap[w.heap.size]? = some (.cells #[.slice a l.length c, .int .i64 now] 25 (0, 0)) := hj.st
        obtain ⟨W2, hW2⟩ : ∃ x : World, x = W.setCell ⟨X, 2, none⟩ (.slice (some ⟨g8, 0, none⟩) (ws.length + 1) cap8) := ⟨_, rfl⟩
        have hk2 : ∀ g, g ≠ X → W2.heap[g]? = W.heap[g]? := fun g hg => by rw [hW2, heap_set _ _ _ _ _ hg]
        have hz2 : W2.heap.size = W.heap.size := by rw [hW2]; simp
        have HF : Hid (TxIn w L X R sa n k a c l now W2 (m - 1)) := by
          refine ⟨st', rs, ws ++ [p8], ra, rq, .slice (some ⟨g8, 0, none⟩) (ws.length + 1) cap8, kk + 1 + 3, by simp; omega, by omega, ?_, ?_, i5, ?_, tx_snoc E7.out (by omega) hp8, ?_, ?_, ?_, ?_⟩
          · have := row_set cX 2 (.slice (some ⟨g8, 0, none⟩) (ws.length + 1) cap8)
            rw [hW2]; simpa using this
          · exact NuOwn.kept2 hj.nu (by omega) (fun g cs hc => hk2 g (by rintro rfl; rw [cX] at hc; simp at hc))
          · have o9 : W.ownsRow w.heap.size 43 2 (.slice (some ⟨g8, 0, none⟩) (ws.length + 1) cap8) (ws ++ [p8]).length (veCells (ws ++ [p8])) := by simpa using o8
            exact own_set o9 (fun g hg => hk2 g (by
              rintro rfl
              rcases o9.2 with ⟨e1, _⟩ | ⟨ga, ca, cua, ea, _, ha, _⟩
              · cases e1
              · rw [ea] at hg
                simp only [Value.ownBlock, Option.some.injEq] at hg
                subst hg
                rw [cX] at ha; simp at ha))
          · exact SrcSt.move QS (hk2 L (by omega))
          · rw [hW2]; exact grown_far hj.grown (by omega) _ _
          · exact (hk2 R (by omega)).trans hj.rs0
          · exact (hk2 _ (by omega)).trans cS
        have x2 := fun o => row_cell cX o
        have f2 := fun o => row_frozen cX o
        have HW2 : Hid _ := hW2
        clear hp hj cX cS hk2 hz2 hW2 QS o8
        unfold wpTail
        refine wpOp_step rfl (fun K hK => ?_)
        go_simp
        refine hK _ _ ?_
        clear hK
        unfold wpTail
        go_wp2_with fail
        rw [← HW2.out]
        exact ⟨⟨m - 1, by go_num, HF⟩, by simp [intOf]; omega⟩
end Go.Proofs.Ytoahbfledamnnaa.G
