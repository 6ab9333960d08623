/- The draws: a store, the walk. -/
import Derived.Test.YtbpkjpoicelgcaaStTxFn
import Derived.Test.YtbpkjpoicelgcaaStStoreMath
import Derived.Test.YtbpkjpoicelgcaaStNew
import Derived.Deep.CutBlock
import Derived.Deep.CutRange
namespace Go.Proofs.Ytbpkjpoicelgcaa.G
open Go.ChangeShapes Go.WideShapes Go.ChangeAt Go.RowKit
set_option linter.unusedVariables false

set_option maxHeartbeats 1000000 in
theorem spec_write_nil (a pa : Option Addr) (m c pc : Nat) (now : Int) (w : World) :
    Calls Try.prog 46 #[.agg #[.slice a m c, .int .i64 now], .slice pa 0 pc] w fun e w' => e = .returned (.agg #[.slice a m c, .int .i64 now]) ∧ Below w.heap.size w w' := by
  go_enter Try.func46, Try.ntmps46
  go_wp2_with fail
  refine bodyPost_ret (v := .agg #[.slice a m c, .int .i64 now]) (by simp [results, Try.results46, go_sem]) rfl ⟨rfl, ?_⟩
  repeat (first | exact Below.refl _ _ | refine Below.setCell ?_ (by first | omega | (simp <;> omega)) _ | refine Below.alloc ?_ (by first | omega | (simp <;> omega)) _)
/-- A store's rows, beside the variable that holds it. -/
def Beside (lo X : Nat) (w : World) (a : Option Addr) (l : Chs) : Prop := ChRow lo X w a l ∨ ChRow (X + 1) w.heap.size w a l
theorem Beside.row {lo X : Nat} {w : World} {a : Option Addr} {l : Chs} (h : Beside lo X w a l) (hX : X ≤ w.heap.size) : ChRow 0 w.heap.size w a l := by
  rcases h with h | h
  · exact ChRow.wide h (Nat.zero_le _) hX
  · exact ChRow.wide h (Nat.zero_le _) (Nat.le_refl _)
theorem Beside.keep {lo X : Nat} {w w' : World} {a : Option Addr} {l : Chs} (h : Beside lo X w a l) (hX : X ≤ w.heap.size) (hlo : lo ≤ X) (hs : w.heap.size ≤ w'.heap.size) (hk : ∀ g, lo ≤ g → g < w.heap.size → g ≠ X → w'.heap[g]? = w.heap[g]?) : Beside lo X w' a l := by
  rcases h with h | h
  · exact .inl (ChRow.keep h (fun g h1 h2 => hk g h1 (by omega) (by omega)))
  · exact .inr (ChRow.wide (ChRow.keep h (fun g h1 h2 => hk g (by omega) h2 (by omega))) (Nat.le_refl _) hs)
theorem OwnK.chRow {lo : Nat} {w : World} {v : Value} {l : Chs} (h : OwnK lo w v l) : ∃ a c, v = .slice a l.length c ∧ ChRow lo w.heap.size w a l := by
  obtain ⟨vs, h1, h2⟩ := h
  exact Kids.row h1 h2
/-- The write of a drawn store, of whatever writes. -/
theorem write_any (a pa : Option Addr) (c pc : Nat) (l : Chs) (ps : List Ve) (now X lo : Nat) (w : World) (hb : Beside lo X w a l) (hX : X < w.heap.size) (hlo : lo ≤ X) (hp : VeRow 0 w.heap.size w pa ps) (hs : storeB l now = true) (hn : now ≤ 1000) (hpl : ps.length ≤ 4) (hpp : ∀ p ∈ ps, putB p.ts p.v = true) :
    Calls Try.prog 46 #[.agg #[.slice a l.length c, .int .i64 now], .slice pa ps.length pc] w fun e w' => (∃ (l2 : Chs) (a2 : Option Addr) (c2 now2 : Nat), e = .returned (.agg #[.slice a2 l2.length c2, .int .i64 now2]) ∧ Beside lo X w' a2 l2 ∧ storeB l2 now2 = true ∧ now2 ≤ now + 1) ∧ Below w.heap.size w w' := by
  by_cases h0 : ps.length = 0
  · rw [h0]
    refine (spec_write_nil a pa l.length c pc now w).mono ?_
    rintro e w' ⟨rfl, hbw⟩
    exact ⟨⟨l, a, c, now, rfl, hb.keep (by omega) hlo hbw.size (fun g h1 h2 h3 => hbw.block g h2), hs, by omega⟩, hbw⟩
  · obtain ⟨h1, h2, h3, h4⟩ := storeB_all hs
    have hlen := storeB_bd hs
    refine (spec_l06Write a pa c pc l ps now w (hb.row (by omega)) hp ⟨by omega, fun x hx => by have := hlen x hx; omega⟩ (by omega) (by omega) h1 (fun i hi => by
      have := hpp ps[i] (List.getElem_mem hi)
      simp only [putB, keyB, Bool.and_eq_true, decide_eq_true_eq] at this
      exact this.1) (by omega)).mono ?_
    rintro e w' ⟨v, rfl, ho, hbw⟩
    obtain ⟨a2, c2, rfl, hr⟩ := ho.chRow
    exact ⟨⟨_, a2, c2, now + 1, rfl, .inr (ChRow.wide hr (by omega) (Nat.le_refl _)), storeB_wr hs (by omega) hpp, Nat.le_refl _⟩, hbw⟩
end Go.Proofs.Ytbpkjpoicelgcaa.G
namespace Go.Proofs.Ytbpkjpoicelgcaa.G
open Go.ChangeShapes Go.WideShapes Go.ChangeAt Go.RowKit
set_option linter.unusedVariables false

/-- What the operations of the reading tell. -/
def RdPv (L : Nat) (a : Option Addr) (ln c now : Nat) (st : Int) (ra : Option Addr) (rn rq : Nat) (wa : Option Addr) (wn wq : Nat) : Nat → Value → World → Prop
  | 0, y, _ => y = .agg #[.slice a ln c, .int .i64 now]
  | 1, y, _ => y = .agg #[.int .i64 st, .slice ra rn rq, .slice wa wn wq]
  | 2, y, _ => y = .pointer (some ⟨L, 0, none⟩)
  | _, _, _ => True
theorem RdPv.up {L : Nat} {a : Option Addr} {ln c now : Nat} {st : Int} {ra : Option Addr} {rn rq : Nat} {wa : Option Addr} {wn wq : Nat} {W W' : World} {i : Nat} {y : Value} (h : RdPv L a ln c now st ra rn rq wa wn wq i y W) : RdPv L a ln c now st ra rn rq wa wn wq i y W' := by
  unfold RdPv at h ⊢
  split at h <;> exact h
def PtPv (L X : Nat) (wv : Value) : Nat → Value → World → Prop
  | 0, y, _ => y = .pointer (some ⟨X, 2, none⟩)
  | 1, y, _ => y = wv
  | 2, y, _ => y = .pointer (some ⟨L, 0, none⟩)
  | 6, y, _ => y = .pointer (some ⟨X, 2, none⟩)
  | _, _, _ => True
theorem PtPv.up {L X : Nat} {wv : Value} {W W' : World} {i : Nat} {y : Value} (h : PtPv L X wv i y W) : PtPv L X wv i y W' := by
  unfold PtPv at h ⊢
  split at h <;> exact h
theorem rd_dst : ∀ i, i < 10 → ∀ j, j < 10 → [26, 27, 28, 29, 30, 25, 31, 32, 7, 99].getD i 0 = [26, 27, 28, 29, 30, 25, 31, 32, 7, 99].getD j 0 → i = j := by decide
/-- Where the drawing of a transaction stands: it lies in block X, the answer in R, the source in L. -/
def TxIn (w : World) (L X R : Nat) (sa : Option Addr) (n k : Nat) (a : Option Addr) (c : Nat) (l : Chs) (now : Nat) (w' : World) (m : Nat) : Prop :=
  ∃ (st : Int) (rs : List Int) (ws : List Ve) (ra : Option Addr) (rq : Nat) (wv : Value) (kk : Nat), m + ws.length ≤ 5 ∧ kk + 4 * m ≤ k + 22 ∧ w'.heap[X]? = some (.cells #[.int .i64 st, .slice ra rs.length rq, wv] 30 (0, 0)) ∧ NuOwn 0 w'.heap.size w' ra rs ∧ rs.length ≤ rq ∧ w'.ownsRow w.heap.size 43 2 wv ws.length (veCells ws) ∧ txnB l now st rs ws = true ∧ SrcSt w' L sa n kk ∧ w.grownBy w' (some L) ∧ w'.heap[R]? = some (.cells txZ 30 (0, 0)) ∧ w'.heap[w.heap.size]? = some (.cells #[.slice a l.length c, .int .i64 now] 25 (0, 0))
set_option maxHeartbeats 8000000 in
set_option maxRecDepth 40000 in
theorem txn_any (L n k : Nat) (sa a : Option Addr) (c : Nat) (l : Chs) (now : Nat) (w : World) (h : SrcSt w L sa n k) (hr : ByteRow L w sa n) (hk : k ≤ 90000) (hn : n ≤ 1048576) (hs : ChRow 0 L w a l) (hst : storeB l now = true) (hnow : now ≤ 13) :
    Calls Try.prog 35 #[.pointer (some ⟨L, 0, none⟩), .agg #[.slice a l.length c, .int .i64 now]] w fun e w' => (∃ (st : Int) (rs : List Int) (ws : List Ve) (ra : Option Addr) (rq : Nat) (wa : Option Addr) (wq : Nat), e = .returned (.agg #[.int .i64 st, .slice ra rs.length rq, .slice wa ws.length wq]) ∧ (NuOwn 0 w'.heap.size w' ra rs ∧ w'.ownsRow w.heap.size 43 2 (.slice wa ws.length wq) ws.length (veCells ws)) ∧ txnB l now st rs ws = true ∧ rs.length ≤ rq) ∧ w.grownBy w' (some L) := by
  have hL := h.lt
  have hbd := storeB_bd hst
  have h16 := (storeB_all hst).1
  have HE : Hid (ChsBd 1048576 l) := ⟨by omega, fun x hx => by have := hbd x hx; omega⟩
  have H16 : Hid (l.length = 16) := h16
  have HST : Hid (storeB l now = true) := hst
  clear hbd h16 hst
  obtain ⟨wa, hwa⟩ : ∃ x : World, x = (w.alloc (.cells #[.slice a l.length c, .int .i64 now] 25)).alloc (.cells txZ 30) := ⟨_, rfl⟩
  have za : w.heap.size + 2 ≤ wa.heap.size := by rw [hwa]; simp
  have ba : Below w.heap.size w wa := by
    rw [hwa]
    repeat (first | exact Below.refl _ _ | refine Below.alloc ?_ (by first | omega | (simp <;> omega)) _)
  have ca : wa.heap[w.heap.size]? = some (.cells #[.slice a l.length c, .int .i64 now] 25 (0, 0)) := by
    rw [hwa, Below.heap_alloc _ _ _ (by simp)]; exact heap_alloc_new _ _
  have cb : wa.heap[w.heap.size + 1]? = some (.cells txZ 30 (0, 0)) := by
    rw [hwa]
    have := heap_alloc_new (w.alloc (.cells #[.slice a l.length c, .int .i64 now] 25)) (.cells txZ 30)
    simpa using this
  have HS : Hid (SrcSt wa L sa n k) := h.move (ba.block L hL)
  have GA : Hid (w.grownBy wa (some L)) := grown_below (grown_refl _ _) ba
  have CA : Hid _ := ca
  have CB : Hid _ := cb
  have HR0 : Hid _ := hr
  have CH : Hid (∀ W, w.grownBy W (some L) → ChRow 0 W.heap.size W a l) := fun W hg => ChRow.wide (ChRow.keep hs (fun g _ h2 => hg.block g (by omega) (by simp; omega))) (Nat.le_refl _) (by have := hg.size; omega)
  have xa := fun o => row_cell ca o
  clear h hr ba ca cb hs
  go_enter Try.func35, Try.ntmps35
  go_upto_region 1 with fail
  rw [show (#[Value.int IntKind.i64 0, Value.slice none 0 0, Value.slice none 0 0] : Array Value) = txZ from rfl]
  rw [← hwa]
  clear hwa
  go_wp2_with fail
  rw [show (now : Int) + 1 = ((now + 1 : Nat) : Int) by omega]
  refine (next_pos (now + 1) L n k sa _ HS.out (row_keep HR0.out GA.out) (by omega) hn (by omega) (by omega)).mono ?_
  rintro e w1 ⟨⟨st, hst, rfl⟩, s1, g1⟩
  have z1 := g1.size
  have G1 : Hid (w.grownBy w1 (some L)) := grown_trans GA.out g1
  have A1 : Hid _ := (g1.block w.heap.size (by omega) (by simp; omega)).trans CA.out
  have B1 : Hid _ := (g1.block (w.heap.size + 1) (by omega) (by simp; omega)).trans CB.out
  have S1 : Hid _ := s1
  clear s1 g1 HS GA CA CB xa
  obtain ⟨w2, hw2⟩ : ∃ x : World, x = ((w1.alloc (.cells #[] 3)).alloc (.cells #[] 43)).alloc (.cells #[.int .i64 st, .slice (some ⟨w1.heap.size, 0, none⟩) 0 0, .slice (some ⟨w1.heap.size + 1, 0, none⟩) 0 0] 30) := ⟨_, rfl⟩
  have b2 : Below w1.heap.size w1 w2 := by
    rw [hw2]
    repeat (first | exact Below.refl _ _ | refine Below.alloc ?_ (by first | omega | (simp <;> omega)) _)
  have z2 : w1.heap.size + 3 ≤ w2.heap.size := by rw [hw2]; simp
  have c20 : w2.heap[w1.heap.size]? = some (.cells #[] 3 (0, 0)) := by
    rw [hw2, Below.heap_alloc _ _ _ (by simp; omega), Below.heap_alloc _ _ _ (by simp)]; exact heap_alloc_new _ _
  have c21 : w2.heap[w1.heap.size + 1]? = some (.cells #[] 43 (0, 0)) := by
    rw [hw2, Below.heap_alloc _ _ _ (by simp)]
    have := heap_alloc_new (w1.alloc (.cells #[] 3)) (.cells #[] 43)
    simpa using this
  have c22 : w2.heap[w1.heap.size + 1 + 1]? = some (.cells #[.int .i64 st, .slice (some ⟨w1.heap.size, 0, none⟩) 0 0, .slice (some ⟨w1.heap.size + 1, 0, none⟩) 0 0] 30 (0, 0)) := by
    rw [hw2]
    have := heap_alloc_new ((w1.alloc (.cells #[] 3)).alloc (.cells #[] 43)) (.cells #[.int .i64 st, .slice (some ⟨w1.heap.size, 0, none⟩) 0 0, .slice (some ⟨w1.heap.size + 1, 0, none⟩) 0 0] 30)
    simpa using this
  obtain ⟨X, hX⟩ : ∃ X, X = w1.heap.size + 1 + 1 := ⟨_, rfl⟩
  obtain ⟨R, hR⟩ : ∃ R, R = w.heap.size + 1 := ⟨_, rfl⟩
  have I2 : Hid (∀ (W : World) (m : Nat), m < 6 → w2.grownBy W (some L) → SrcSt W L sa n (k + 2) → TxIn w L X R sa n k a c l now W m) := fun W m hm hg hS => by
    have hz := hg.size
    have ok : ∀ g, g < w2.heap.size → g ≠ L → W.heap[g]? = w2.heap[g]? := fun g h1 h2 => hg.block g h1 (by simpa using h2)
    refine ⟨st, [], [], some ⟨w1.heap.size, 0, none⟩, 0, .slice (some ⟨w1.heap.size + 1, 0, none⟩) 0 0, k + 2, by simp; omega, by omega, ?_, .inl rfl, Nat.le_refl _, ?_, ?_, hS, ?_, ?_, ?_⟩
    · rw [hX]; exact (ok _ (by omega) (by omega)).trans c22
    · exact ⟨rfl, .inr ⟨w1.heap.size + 1, 0, #[], rfl, by omega, (ok _ (by omega) (by omega)).trans c21, Nat.le_refl _, Nat.zero_le _, rfl, rfl⟩⟩
    · exact tx_none HST.out (by omega) (by omega)
    · exact grown_trans (grown_below G1.out b2) hg
    · rw [hR]; exact (ok _ (by omega) (by omega)).trans ((b2.block _ (by omega)).trans B1.out)
    · exact (ok _ (by omega) (by omega)).trans ((b2.block _ (by omega)).trans A1.out)
  have S2 : Hid (SrcSt w2 L sa n (k + 1)) := SrcSt.move S1.out (b2.block L (by omega))
  have G2 : Hid (w.grownBy w2 (some L)) := grown_below G1.out b2
  have hXR : w.heap.size + 2 ≤ X := by omega
  have hX2 : X < w2.heap.size := by omega
  have hRw : w.heap.size < R ∧ R < X := by omega
  clear c20 c21 c22 b2
  go_upto_region 2 with fail
  rw [← hw2, ← hX, ← hR]
  clear hw2 hX hR
  go_wp2_with fail
  refine (next_any 6 L n (k + 1) sa _ S2.out (row_keep HR0.out G2.out) (by omega) hn (by omega) (by omega)).mono ?_
  rintro e w3 ⟨⟨q, hq, rfl⟩, s3, g3⟩
  have I3 : Hid (TxIn w L X R sa n k a c l now w3 q) := I2.out _ _ (by omega) g3 s3
  have z3 := g3.size
  clear s3 g3 I2 S2 G2 S1 G1 A1 B1
  go_wp2_with fail
  go_loopw [6] (fun i w' => ∃ (m : Nat), i = .int .i64 m ∧ Hid (TxIn w L X R sa n k a c l now w' m)) (fun i _ => (intOf i).toNat)
  case atStart => exact ⟨q, rfl, I3⟩
  case round =>
    obtain ⟨wo, rfl⟩ : ∃ x, x = wr := ⟨_, rfl⟩
    obtain ⟨m, rfl, HI⟩ := hrel
    obtain ⟨st', rs, ws, ra, rq, wv, kk, i1, i2, i3, i4, i5, i6, i7, i8, i9, i10, i11⟩ := HI.out
    have E3 : Hid _ := i3
    have E4 : Hid _ := i4
    have E6 : Hid _ := i6
    have E7 : Hid _ := i7
    have E8 : Hid _ := i8
    have E9 : Hid _ := i9
    have E10 : Hid _ := i10
    have E11 : Hid _ := i11
    have zo := i9.size
    have hXl : X < wo.heap.size := (Array.getElem?_eq_some_iff.1 i3).1
    have hRl : R < wo.heap.size := (Array.getElem?_eq_some_iff.1 i10).1
    obtain ⟨wa', wq, hwv, hwr⟩ := own_veRow i6
    have WR : Hid _ := hwr
    clear i3 i4 i6 i7 i8 i9 i10 i11 HI hwr I3
    by_cases h0 : 0 < m
    case neg =>
      obtain rfl : m = 0 := by omega
      subst hwv
      have x0 := fun o => row_cell E3.out o
      have x1 := fun o => row_cell E10.out o
      have y1 := fun o => row_frozen E10.out o
      go_wp2_with fail
      refine bodyPost_ret (v := .agg #[.int .i64 st', .slice ra rs.length rq, .slice wa' ws.length wq]) (by simp [results, Try.results35, go_sem, x1]) rfl ⟨⟨st', rs, ws, ra, rq, wa', wq, rfl, ⟨?_, ?_⟩, E7.out, i5⟩, ?_⟩
      · have h1 := NuOwn.kept2 E4.out (W' := ((wo.setCell ⟨R, 0, none⟩ (.int .i64 st')).setCell ⟨R, 1, none⟩ (.slice ra rs.length rq)).setCell ⟨R, 2, none⟩ (.slice wa' ws.length wq)) (by simp) (fun g cs hc => by
          have : g ≠ R := by rintro rfl; rw [E10.out] at hc; simp at hc
          rw [heap_set _ _ _ _ _ this, heap_set _ _ _ _ _ this, heap_set _ _ _ _ _ this])
        exact h1
      · have h1 := own_set E6.out (w' := ((wo.setCell ⟨R, 0, none⟩ (.int .i64 st')).setCell ⟨R, 1, none⟩ (.slice ra rs.length rq)).setCell ⟨R, 2, none⟩ (.slice wa' ws.length wq)) (fun g hg => by
          have : g ≠ R := by
            rintro rfl
            rcases E6.out.2 with ⟨e1, _⟩ | ⟨ga, ca, cua, ea, _, ha, _⟩
            · rw [e1] at hg; cases hg
            · rw [ea] at hg
              simp only [Value.ownBlock, Option.some.injEq] at hg
              subst hg
              rw [E10.out] at ha; simp at ha
          rw [heap_set _ _ _ _ _ this, heap_set _ _ _ _ _ this, heap_set _ _ _ _ _ this])
        exact h1
      · exact grown_far (grown_far (grown_far E9.out (by omega) _ _) (by omega) _ _) (by omega) _ _
    have h0' : (0 : Int) < m := by omega
    go_wp2_with fail
    refine (chance_any 2 L n kk sa _ E8.out (row_keep HR0.out E9.out) (by omega) hn (by omega) (by omega)).mono ?_
    rintro e w9 ⟨⟨bb, rfl⟩, s9, g9⟩
    have z9 := g9.size
    have ok9 : ∀ (g : Nat) (cs : Array Value) (T : TypeId), wo.heap[g]? = some (.cells cs T (0, 0)) → T ≠ 78 → w9.heap[g]? = wo.heap[g]? := fun g cs T hg hT => g9.block g (Array.getElem?_eq_some_iff.1 hg).1 (by have := SrcSt.ne E8.out hg hT; simpa using this)
    have K3 : Hid _ := (ok9 _ _ _ E3.out (by decide)).trans E3.out
    have K4 : Hid (NuOwn 0 w9.heap.size w9 ra rs) := NuOwn.kept2 E4.out g9.size (fun g cs hc => ok9 g cs _ hc (by decide))
    have K6 : Hid (w9.ownsRow w.heap.size 43 2 wv ws.length (veCells ws)) := own_set E6.out (fun g hg => by
      rcases E6.out.2 with ⟨e1, _⟩ | ⟨ga, ca, cua, ea, _, ha, _⟩
      · rw [e1] at hg; cases hg
      · rw [ea] at hg
        simp only [Value.ownBlock, Option.some.injEq] at hg
        subst hg
        exact ok9 _ _ _ ha (by decide))
    have K8 : Hid _ := s9
    have K9 : Hid (w.grownBy w9 (some L)) := grown_trans E9.out g9
    have K10 : Hid _ := (ok9 _ _ _ E10.out (by decide)).trans E10.out
    have K11 : Hid _ := (ok9 _ _ _ E11.out (by decide)).trans E11.out
    clear s9 g9 ok9 E3 E4 E6 E8 E9 E10 E11 WR
    subst hwv
    cases bb
    case true =>
      go_upto_region 6 with fail
      refine region_rel5 (n := 10) (k := 1) (by omega) (by kernel_rfl) (by kernel_rfl) (by kernel_rfl) (fun u => ⟨#[.pointer (some ⟨L, 0, none⟩), .agg #[.slice a l.length c, .int .i64 now], undef, .pointer (some ⟨w.heap.size, 0, none⟩), .pointer (some ⟨R, 0, none⟩), .pointer (some ⟨X, 0, none⟩), .int .i64 m, u 7, u8, .pointer (some ⟨L, 0, none⟩), .pointer (some ⟨w.heap.size, 1, none⟩), .int .i64 now, .int .i64 ((now : Int) + 1), .int .i64 st, .slice (some ⟨w1.heap.size, 0, none⟩) 0 0, .slice (some ⟨w1.heap.size + 1, 0, none⟩) 0 0, .agg #[.int .i64 st, .slice (some ⟨w1.heap.size, 0, none⟩) 0 0, .slice (some ⟨w1.heap.size + 1, 0, none⟩) 0 0], .pointer (some ⟨L, 0, none⟩), .int .i64 q, .int .i64 m, .bool true, u21, u22, .pointer (some ⟨L, 0, none⟩), .bool true, u 25, u 26, u 27, u 28, u 29, u 30, u 31, u 32, u33, u34, u35, u36, u37, u38, u39, u40, undef], []⟩) (fun n => match n with | 7 => u7 | 25 => u25 | 26 => u26 | 27 => u27 | 28 => u28 | 29 => u29 | 30 => u30 | 31 => u31 | 32 => u32 | _ => undef) (fun i => [26, 27, 28, 29, 30, 25, 31, 32, 7, 99].getD i 0) (fun i j hi hj h => rd_dst i hi j hj h)
        (RdPv L a l.length c now st' ra rs.length rq wa' ws.length wq) (RdJ w9 L sa n (kk + 1) st' rs ws (.slice wa' ws.length wq)) (RdJ.start K8.out) ?step ?last
      case step =>
        intro D u W i hi hLs hLi hj hdep
        have hzW := hj.grown.size
        have oldb : ∀ (g : Nat) (cs : Array Value) (T : TypeId), w9.heap[g]? = some (.cells cs T (0, 0)) → T ≠ 78 → W.heap[g]? = w9.heap[g]? := fun g cs T hg hT => hj.grown.block g (Array.getElem?_eq_some_iff.1 hg).1 (by have := SrcSt.ne K8.out hg hT; simpa using this)
        have hcase : i = 0 ∨ i = 1 ∨ i = 2 ∨ i = 3 ∨ i = 4 ∨ i = 5 ∨ i = 6 ∨ i = 7 ∨ i = 8 ∨ i = 9 := by omega
        rcases hcase with rfl | rfl | rfl | rfl | rfl | rfl | rfl | rfl | rfl | rfl
        · have x6 := fun o => row_cell ((oldb _ _ _ K11.out (by decide)).trans K11.out) o
          refine wpOp_step rfl (fun K hK => ?_)
          clear hdep
          go_simp
          exact hK _ _ ⟨_, rfl, fun _ _ h => RdPv.up h, rfl, hj.step (by omega) (by simp)⟩
        · have x6 := fun o => row_cell ((oldb _ _ _ K3.out (by decide)).trans K3.out) o
          refine wpOp_step rfl (fun K hK => ?_)
          clear hdep
          go_simp
          exact hK _ _ ⟨_, rfl, fun _ _ h => RdPv.up h, rfl, hj.step (by omega) (by simp)⟩
        · refine wpOp_step rfl (fun K hK => ?_)
          clear hdep
          go_simp
          exact hK _ _ ⟨_, rfl, fun _ _ h => RdPv.up h, rfl, hj.step (by omega) (by simp)⟩
        · have d2 : u 28 = .pointer (some ⟨L, 0, none⟩) := (hdep _ rfl ⟨2, .data⟩ (by simp) rfl).2
          have l3 : D.getD 3 false = false := by
            cases h8 : D.getD 3 false
            · rfl
            · rw [getD_both (by omega) h8] at hLi; cases hLi
          have HSW : Hid _ := hj.s0 l3
          have HRW : Hid _ := row_keep HR0.out (grown_trans K9.out hj.grown)
          have HJ : Hid _ := hj
          refine wpOp_step rfl (fun K hK => ?_)
          clear hdep
          go_simp
          refine (next_any 16 L n _ sa _ HSW.out HRW.out (by omega) hn (by omega) (by omega)).mono ?_
          rintro e w8 ⟨⟨t, ht, rfl⟩, s8, g8⟩
          exact hK _ _ ⟨.int .i64 t, by simp [upd, d2], fun _ _ h => RdPv.up h, trivial, RdJ.three HJ.out g8 (by omega) ht s8⟩
        · have d0 : u 26 = .agg #[.slice a l.length c, .int .i64 now] := (hdep _ rfl ⟨0, .data⟩ (by simp) rfl).2
          have d1 : u 27 = .agg #[.int .i64 st', .slice ra rs.length rq, .slice wa' ws.length wq] := (hdep _ rfl ⟨1, .data⟩ (by simp) rfl).2
          have l3 := (hdep _ rfl ⟨3, .data⟩ (by simp) rfl).1
          have l4 : D.getD 4 false = false := by
            cases h8 : D.getD 4 false
            · rfl
            · rw [getD_both (by omega) h8] at hLi; cases hLi
          obtain ⟨t, ht, d3⟩ := (hj.s1 l3).2
          have HNW : Hid (NuOwn 0 W.heap.size W ra rs) := NuOwn.kept2 K4.out hzW (fun g cs hc => oldb g cs _ hc (by decide))
          have hvw : VeRow 0 W.heap.size W wa' ws := by
            obtain ⟨a9, c9, e9, r9⟩ := own_veRow (own_set K6.out (w' := W) (fun g hg => by
              rcases K6.out.2 with ⟨e1, _⟩ | ⟨ga, ca, cua, ea, _, ha, _⟩
              · rw [e1] at hg; cases hg
              · rw [ea] at hg
                simp only [Value.ownBlock, Option.some.injEq] at hg
                subst hg
                exact oldb _ _ _ ha (by decide)))
            simp only [Value.slice.injEq] at e9
            rw [e9.1]; exact r9
          have HVW : Hid _ := hvw
          have HCW : Hid _ := CH.out _ (grown_trans K9.out hj.grown)
          have HTB : Hid (TxBd 1048576 rs ws) := ⟨by have := readsB_len (txnB_all E7.out).2.2.2; omega, by omega⟩
          have HJ : Hid _ := hj
          refine wpOp_step rfl (fun K hK => ?_)
          clear hdep hvw
          go_simp
          refine (spec_rd2 a ra wa' c rq wq l now st' rs ws t _ HCW.out HE.out ⟨HNW.out.row0, HVW.out⟩ HTB.out i5 H16.out ht).mono ?_
          rintro e w8 ⟨⟨ra8, rq8, rfl, h81, h82⟩, b8⟩
          have h83 : NuOwn 0 w8.heap.size w8 ra8 (rdK rs ws t) := by
            rcases h81 with h | ⟨h1, h2⟩
            · exact NuOwn.wide h (Nat.zero_le _) (Nat.le_refl _)
            · rw [h1, h2]
              exact NuOwn.kept2 HNW.out b8.size (fun g cs hc => b8.block g (Array.getElem?_eq_some_iff.1 hc).1)
          exact hK _ _ ⟨rdTup st' ra8 (rdK rs ws t).length rq8 (.slice wa' ws.length wq) (rdV l st' ws t), by simp [upd, d0, d1, d3, rdTup], fun _ _ h => RdPv.up h, trivial, RdJ.four HJ.out b8 l4 ht h83 h82⟩
        · have l4 := (hdep _ rfl ⟨4, .data⟩ (by simp) rfl).1
          have HJ : Hid _ := hj
          refine wpOp_step rfl (fun K hK => ?_)
          clear hdep
          go_simp
          exact hK _ _ ⟨u 30, rfl, fun _ _ h => RdPv.up h, trivial, RdJ.five HJ.out l4⟩
        · have l5 := (hdep _ rfl ⟨5, .data⟩ (by simp) rfl).1
          obtain ⟨e25, l4⟩ := hj.m5 l5
          obtain ⟨x, z, h30, hx⟩ : ∃ (x z : Value), u 30 = .tuple #[x, z] ∧ u 25 = .tuple #[x, z] := by
            obtain ⟨t, ra8, rq8, z, _, h4, _⟩ := hj.rd l4
            exact ⟨_, _, h4, e25.trans h4⟩
          have HJ : Hid _ := hj
          refine wpOp_step rfl (fun K hK => ?_)
          clear hdep e25
          go_simp
          exact hK _ _ ⟨x, by simp [upd, hx, h30], fun _ _ h => RdPv.up h, trivial, RdJ.six HJ.out l4 h30⟩
        · have l5 := (hdep _ rfl ⟨5, .data⟩ (by simp) rfl).1
          obtain ⟨e25, l4⟩ := hj.m5 l5
          obtain ⟨x, z, h30, hx⟩ : ∃ (x z : Value), u 30 = .tuple #[x, z] ∧ u 25 = .tuple #[x, z] := by
            obtain ⟨t, ra8, rq8, z, _, h4, _⟩ := hj.rd l4
            exact ⟨_, _, h4, e25.trans h4⟩
          have HJ : Hid _ := hj
          refine wpOp_step rfl (fun K hK => ?_)
          clear hdep e25
          go_simp
          exact hK _ _ ⟨z, by simp [upd, hx, h30], fun _ _ h => RdPv.up h, trivial, RdJ.step HJ.out (by omega) (by simp)⟩
        · have l8 : D.getD 8 false = false := by
            cases h8 : D.getD 8 false
            · rfl
            · rw [getD_both (by omega) h8] at hLi; cases hLi
          have HJ : Hid _ := hj
          refine wpOp_step rfl (fun K hK => ?_)
          clear hdep
          go_simp
          exact hK _ _ ⟨.pointer (some ⟨W.heap.size, 0, none⟩), rfl, fun _ _ h => RdPv.up h, trivial, RdJ.eight HJ.out ((Below.refl _ _).alloc (Nat.le_refl _) _) l8 (heap_alloc_new _ _)⟩
        · have l8 := (hdep _ rfl ⟨8, .data⟩ (by simp) rfl).1
          have l6 := (hdep _ rfl ⟨6, .data⟩ (by simp) rfl).1
          obtain ⟨⟨x, z, h30, h31⟩, l4⟩ := hj.m6 l6
          have l9 : D.getD 9 false = false := by
            cases h8 : D.getD 9 false
            · rfl
            · rw [getD_both (by omega) h8] at hLi; cases hLi
          obtain ⟨y, q1, q2, q3⟩ := hj.vr l8 l9
          obtain ⟨t, ra8, rq8, z', q4, q5, q6, q7, _⟩ := hj.rd l4
          have hxe : x = .agg #[.int .i64 st', .slice ra8 (rdK rs ws t).length rq8, .slice wa' ws.length wq] := by
            rw [h30] at q5
            simp only [rdTup, Value.tuple.injEq, Array.mk.injEq, List.cons.injEq] at q5
            exact q5.1
          subst hxe
          obtain ⟨W2, hW2⟩ : ∃ x : World, x = ((W.setCell ⟨y, 0, none⟩ (.int .i64 st')).setCell ⟨y, 1, none⟩ (.slice ra8 (rdK rs ws t).length rq8)).setCell ⟨y, 2, none⟩ (.slice wa' ws.length wq) := ⟨_, rfl⟩
          have hc2 : W2.heap[y]? = some (.cells #[.int .i64 st', .slice ra8 (rdK rs ws t).length rq8, .slice wa' ws.length wq] 30 (0, 0)) := by
            have := row_set (row_set (row_set q3 0 (.int .i64 st')) 1 (.slice ra8 (rdK rs ws t).length rq8)) 2 (.slice wa' ws.length wq)
            rw [hW2]; simpa using this
          have HJ2 : Hid (∀ val, RdJ w9 L sa n (kk + 1) st' rs ws (.slice wa' ws.length wq) (D.setIfInBounds 9 true) (upd u 99 val) W2) := fun val => RdJ.nine hj (by omega) l8 l9 q4 q1 q2 q3 l4 q5 q6 q7 (fun g hg => by rw [hW2, heap_set _ _ _ _ _ hg, heap_set _ _ _ _ _ hg, heap_set _ _ _ _ _ hg]) (by rw [hW2]; simp) (by rw [hW2]; exact grown_far (grown_far (grown_far hj.grown q2 _ _) q2 _ _) q2 _ _) hc2
          have x6 := fun o => row_cell q3 o
          have y6 := fun o => row_frozen q3 o
          have HW2 : Hid _ := hW2
          refine wpOp_step rfl (fun K hK => ?_)
          clear hdep hc2 q3 q5 q6 q7 h30 hW2
          go_simp
          rw [← HW2.out]
          exact hK _ _ ⟨undef, by simp [upd, q1, h31], fun _ _ h => RdPv.up h, trivial, HJ2.out _⟩
      case last =>
        intro D u W hLs hD hj hp
        obtain ⟨t, ra8, rq8, z, q4, q5, q6, q7, q8⟩ := hj.rd (hD 4 (by omega))
        obtain ⟨y, y1, y2, y3⟩ := q8 (hD 9 (by omega))
        have QS : SrcSt W L sa n (kk + 1 + 1) := (hj.s1 (hD 3 (by omega))).1
        have QG := hj.grown
        have hzW := QG.size
        have hyl := (Array.getElem?_eq_some_iff.1 y3).1
        have oldb : ∀ (g : Nat) (cs : Array Value) (T : TypeId), w9.heap[g]? = some (.cells cs T (0, 0)) → T ≠ 78 → W.heap[g]? = w9.heap[g]? := fun g cs T hg hT => QG.block g (Array.getElem?_eq_some_iff.1 hg).1 (by have := SrcSt.ne K8.out hg hT; simpa using this)
        have cX := (oldb _ _ _ K3.out (by decide)).trans K3.out
        have cR := (oldb _ _ _ K10.out (by decide)).trans K10.out
        have cS := (oldb _ _ _ K11.out (by decide)).trans K11.out
        have oW : W.ownsRow w.heap.size 43 2 (.slice wa' ws.length wq) ws.length (veCells ws) := own_set K6.out (fun g hg => by
          rcases K6.out.2 with ⟨e1, _⟩ | ⟨ga, ca, cua, ea, _, ha, _⟩
          · rw [e1] at hg; cases hg
          · rw [ea] at hg
            simp only [Value.ownBlock, Option.some.injEq] at hg
            subst hg
            exact oldb _ _ _ ha (by decide))
        obtain ⟨W2, hW2⟩ : ∃ x : World, x = ((W.setCell ⟨X, 0, none⟩ (.int .i64 st')).setCell ⟨X, 1, none⟩ (.slice ra8 (rdK rs ws t).length rq8)).setCell ⟨X, 2, none⟩ (.slice wa' ws.length wq) := ⟨_, rfl⟩
        have hk2 : ∀ g, g ≠ X → W2.heap[g]? = W.heap[g]? := fun g hg => by rw [hW2, heap_set _ _ _ _ _ hg, heap_set _ _ _ _ _ hg, heap_set _ _ _ _ _ hg]
        have hz2 : W2.heap.size = W.heap.size := by rw [hW2]; simp
        have HF : Hid (TxIn w L X R sa n k a c l now W2 (m - 1)) := by
          refine ⟨st', rdK rs ws t, ws, ra8, rq8, .slice wa' ws.length wq, kk + 1 + 1, by omega, by omega, ?_, ?_, q7, ?_, tx_rdK E7.out ⟨by omega, by omega⟩, ?_, ?_, ?_, ?_⟩
          · have := row_set (row_set (row_set cX 0 (.int .i64 st')) 1 (.slice ra8 (rdK rs ws t).length rq8)) 2 (.slice wa' ws.length wq)
            rw [hW2]; simpa using this
          · exact NuOwn.kept2 q6 (by omega) (fun g cs hc => hk2 g (by rintro rfl; rw [cX] at hc; simp at hc))
          · exact own_set oW (fun g hg => hk2 g (by
              rintro rfl
              rcases oW.2 with ⟨e1, _⟩ | ⟨ga, ca, cua, ea, _, ha, _⟩
              · rw [e1] at hg; cases hg
              · rw [ea] at hg
                simp only [Value.ownBlock, Option.some.injEq] at hg
                subst hg
                rw [cX] at ha; simp at ha))
          · exact SrcSt.move QS (hk2 L (by omega))
          · rw [hW2]; exact grown_far (grown_far (grown_far (grown_trans K9.out QG) (by omega) _ _) (by omega) _ _) (by omega) _ _
          · exact (hk2 R (by omega)).trans cR
          · exact (hk2 _ (by omega)).trans cS
        have x1 := fun o => row_cell y3 o
        have x2 := fun o => row_cell cX o
        have f2 := fun o => row_frozen cX o
        have HW2 : Hid _ := hW2
        clear hp hj q5 q6 q7 q8 y3 cX cR cS oW hk2 hz2 hW2 oldb QS QG
        unfold wpTail
        refine wpOp_step rfl (fun K hK => ?_)
        go_simp
        refine hK _ _ ?_
        clear hK
        unfold wpTail
        skip
        go_wp2_with fail
        rw [← HW2.out]
        exact ⟨⟨m - 1, by go_num, HF⟩, by simp [intOf]; omega⟩
    case false =>
      go_upto_region 8 with fail
      refine region_rel5 (n := 7) (k := 1) (by omega) (by kernel_rfl) (by kernel_rfl) (by kernel_rfl) (fun u => ⟨#[.pointer (some ⟨L, 0, none⟩), .agg #[.slice a l.length c, .int .i64 now], undef, .pointer (some ⟨w.heap.size, 0, none⟩), .pointer (some ⟨R, 0, none⟩), .pointer (some ⟨X, 0, none⟩), .int .i64 m, u7, u8, .pointer (some ⟨L, 0, none⟩), .pointer (some ⟨w.heap.size, 1, none⟩), .int .i64 now, .int .i64 ((now : Int) + 1), .int .i64 st, .slice (some ⟨w1.heap.size, 0, none⟩) 0 0, .slice (some ⟨w1.heap.size + 1, 0, none⟩) 0 0, .agg #[.int .i64 st, .slice (some ⟨w1.heap.size, 0, none⟩) 0 0, .slice (some ⟨w1.heap.size + 1, 0, none⟩) 0 0], .pointer (some ⟨L, 0, none⟩), .int .i64 q, .int .i64 m, .bool true, u21, u22, .pointer (some ⟨L, 0, none⟩), .bool false, u25, u26, u27, u28, u29, u30, u31, u32, u33, u 34, u 35, u 36, u 37, u 38, u 39, u 40, undef], []⟩) (fun n => match n with | 34 => u34 | 35 => u35 | 36 => u36 | 37 => u37 | 38 => u38 | 39 => u39 | 40 => u40 | _ => undef) (fun i => 34 + i) (fun i j _ _ h => by omega)
        (PtPv L X (.slice wa' ws.length wq)) (PtJ w L X R #[.slice a l.length c, .int .i64 now] sa n (kk + 1) st' rs ra rq ws (.slice wa' ws.length wq)) (PtJ.start K9.out K3.out K10.out K11.out K4.out K8.out K6.out) ?step ?last
      case step =>
        intro D u W i hi hLs hLi hj hdep
        have hzW := hj.grown.size
        have hcase : i = 0 ∨ i = 1 ∨ i = 2 ∨ i = 3 ∨ i = 4 ∨ i = 5 ∨ i = 6 := by omega
        rcases hcase with rfl | rfl | rfl | rfl | rfl | rfl | rfl
        · refine wpOp_step rfl (fun K hK => ?_)
          clear hdep
          go_simp
          exact hK _ _ ⟨_, rfl, fun _ _ h => PtPv.up h, rfl, hj.step (by omega) (by simp)⟩
        · have d0 : u 34 = .pointer (some ⟨X, 2, none⟩) := (hdep _ rfl ⟨0, .data⟩ (by simp) rfl).2
          have x6 := fun o => row_cell hj.tx o
          refine wpOp_step rfl (fun K hK => ?_)
          clear hdep
          go_simp
          exact hK _ _ ⟨_, by simp [upd, d0], fun _ _ h => PtPv.up h, rfl, hj.step (by omega) (by simp)⟩
        · refine wpOp_step rfl (fun K hK => ?_)
          clear hdep
          go_simp
          exact hK _ _ ⟨_, rfl, fun _ _ h => PtPv.up h, rfl, hj.step (by omega) (by simp)⟩
        · have d2 : u 36 = .pointer (some ⟨L, 0, none⟩) := (hdep _ rfl ⟨2, .data⟩ (by simp) rfl).2
          have l3 : D.getD 3 false = false := by
            cases h8 : D.getD 3 false
            · rfl
            · rw [getD_both (by omega) h8] at hLi; cases hLi
          have HSW : Hid _ := hj.s0 l3
          have HRW : Hid _ := row_keep HR0.out hj.grown
          have HJ : Hid _ := hj
          refine wpOp_step rfl (fun K hK => ?_)
          clear hdep
          go_simp
          refine (put_any L n _ sa _ HSW.out HRW.out (by omega) hn).mono ?_
          rintro e w8 ⟨⟨p8, rfl, hp8⟩, s8, g8⟩
          exact hK _ _ ⟨.agg #[.int .i64 p8.ts, .int .i64 p8.v], by simp [upd, d2], fun _ _ h => PtPv.up h, trivial, PtJ.three HJ.out g8 (by omega) l3 hp8 s8⟩
        · have l3 := (hdep _ rfl ⟨3, .data⟩ (by simp) rfl).1
          have l4 : D.getD 4 false = false := by
            cases h8 : D.getD 4 false
            · rfl
            · rw [getD_both (by omega) h8] at hLi; cases hLi
          obtain ⟨p8, d3, hp8⟩ := (hj.s1 l3).2
          have HJ : Hid _ := hj
          refine wpOp_step rfl (fun K hK => ?_)
          clear hdep
          go_simp
          exact hK _ _ ⟨.slice (some ⟨W.heap.size, 0, none⟩) 1 1, by simp [upd, d3], fun _ _ h => PtPv.up h, trivial, PtJ.four HJ.out ((Below.refl _ _).alloc (Nat.le_refl _) _) (by omega) l4 l3 hp8 (heap_alloc_new _ _)⟩
        · have d1 : u 35 = .slice wa' ws.length wq := (hdep _ rfl ⟨1, .data⟩ (by simp) rfl).2
          have l4 := (hdep _ rfl ⟨4, .data⟩ (by simp) rfl).1
          have l5 : D.getD 5 false = false := by
            cases h8 : D.getD 5 false
            · rfl
            · rw [getD_both (by omega) h8] at hLi; cases hLi
          obtain ⟨p8, h, hp8, d4, hh⟩ := hj.one l4 l5
          obtain ⟨g, cap, W', hrun, o1, o2, o3⟩ := app_put ws p8 (.slice wa' ws.length wq) w.heap.size h W (hj.own l5) hh (by omega) hzW
          have HJ6 : Hid _ := PtJ.five hj hL (by omega) l5 l4 o2 hp8 o1
          clear hdep o1 o2 o3
          refine wpOp_step rfl (fun K hK => ?_)
          refine wp_append_run (.tmp 35) (.tmp 38) _ rfl _ _ _ _ d1 d4 hrun ?_
          exact hK _ _ ⟨_, rfl, fun _ _ h => PtPv.up h, trivial, HJ6.out⟩
        · refine wpOp_step rfl (fun K hK => ?_)
          clear hdep
          go_simp
          exact hK _ _ ⟨_, rfl, fun _ _ h => PtPv.up h, rfl, hj.step (by omega) (by simp)⟩
      case last =>
        intro D u W hLs hD hj hp
        have d6 : u 40 = .pointer (some ⟨X, 2, none⟩) := hp 6 (by omega)
        obtain ⟨p8, g8, cap8, hp8, d5, o8⟩ := hj.app (hD 5 (by omega))
        have QS : SrcSt W L sa n (kk + 1 + 3) := (hj.s1 (hD 3 (by omega))).1
        have hzW := hj.grown.size
        have cX := hj.tx
        have hXW := (Array.getElem?_eq_some_iff.1 cX).1
        have cS : W.heap[w.heap.size]? = some (.cells #[.slice a l.length c, .int .i64 now] 25 (0, 0)) := hj.st
        obtain ⟨W2, hW2⟩ : ∃ x : World, x = W.setCell ⟨X, 2, none⟩ (.slice (some ⟨g8, 0, none⟩) (ws.length + 1) cap8) := ⟨_, rfl⟩
        have hk2 : ∀ g, g ≠ X → W2.heap[g]? = W.heap[g]? := fun g hg => by rw [hW2, heap_set _ _ _ _ _ hg]
        have hz2 : W2.heap.size = W.heap.size := by rw [hW2]; simp
        have HF : Hid (TxIn w L X R sa n k a c l now W2 (m - 1)) := by
          refine ⟨st', rs, ws ++ [p8], ra, rq, .slice (some ⟨g8, 0, none⟩) (ws.length + 1) cap8, kk + 1 + 3, by simp; omega, by omega, ?_, ?_, i5, ?_, tx_snoc E7.out (by omega) hp8, ?_, ?_, ?_, ?_⟩
          · have := row_set cX 2 (.slice (some ⟨g8, 0, none⟩) (ws.length + 1) cap8)
            rw [hW2]; simpa using this
          · exact NuOwn.kept2 hj.nu (by omega) (fun g cs hc => hk2 g (by rintro rfl; rw [cX] at hc; simp at hc))
          · have o9 : W.ownsRow w.heap.size 43 2 (.slice (some ⟨g8, 0, none⟩) (ws.length + 1) cap8) (ws ++ [p8]).length (veCells (ws ++ [p8])) := by simpa using o8
            exact own_set o9 (fun g hg => hk2 g (by
              rintro rfl
              rcases o9.2 with ⟨e1, _⟩ | ⟨ga, ca, cua, ea, _, ha, _⟩
              · cases e1
              · rw [ea] at hg
                simp only [Value.ownBlock, Option.some.injEq] at hg
                subst hg
                rw [cX] at ha; simp at ha))
          · exact SrcSt.move QS (hk2 L (by omega))
          · rw [hW2]; exact grown_far hj.grown (by omega) _ _
          · exact (hk2 R (by omega)).trans hj.rs0
          · exact (hk2 _ (by omega)).trans cS
        have x2 := fun o => row_cell cX o
        have f2 := fun o => row_frozen cX o
        have HW2 : Hid _ := hW2
        clear hp hj cX cS hk2 hz2 hW2 QS o8
        unfold wpTail
        refine wpOp_step rfl (fun K hK => ?_)
        go_simp
        refine hK _ _ ?_
        clear hK
        unfold wpTail
        go_wp2_with fail
        rw [← HW2.out]
        exact ⟨⟨m - 1, by go_num, HF⟩, by simp [intOf]; omega⟩
end Go.Proofs.Ytbpkjpoicelgcaa.G
namespace Go.Proofs.Ytbpkjpoicelgcaa.G
open Go.ChangeShapes Go.WideShapes Go.ChangeAt Go.RowKit
set_option linter.unusedVariables false

def foTup (t : Nat) (a3 : Option Addr) (c3 z now : Nat) (l : Chs) : Value := .tuple #[.agg #[.slice a3 (fgS t l).length c3, .int .i64 now], .int .i64 z]
/-- Where the region stands: 5 draws the hour, 6 forgets, 7 and 8 move, 10 makes the variable, 11 stores. -/
structure FoJ (w9 : World) (L : Nat) (sa : Option Addr) (n kk now : Nat) (l : Chs) (D : Array Bool) (u : Nat → Value) (W : World) : Prop where
  grown : w9.grownBy W (some L)
  s0 : D.getD 5 false = false → SrcSt W L sa n kk
  s1 : D.getD 5 false = true → SrcSt W L sa n (kk + 1) ∧ ∃ t : Nat, u 29 = .int .i64 t
  b : D.getD 6 false = true → D.getD 10 false = false → ∃ (t : Nat) (a3 : Option Addr) (c3 z : Nat), u 30 = foTup t a3 c3 z now l ∧ ChRow w9.heap.size W.heap.size W a3 (fgS t l)
  c : D.getD 6 false = false → D.getD 10 false = true → ∃ y, u 5 = .pointer (some ⟨y, 0, none⟩) ∧ w9.heap.size ≤ y ∧ W.heap[y]? = some (.cells #[.slice none 0 0, .int .i64 0] 25 (0, 0))
  d : D.getD 6 false = true → D.getD 10 false = true → ∃ (y t : Nat) (a3 : Option Addr) (c3 z : Nat), u 5 = .pointer (some ⟨y, 0, none⟩) ∧ w9.heap.size ≤ y ∧ y < W.heap.size ∧ u 30 = foTup t a3 c3 z now l ∧ Beside w9.heap.size y W a3 (fgS t l) ∧ (D.getD 11 false = false → W.heap[y]? = some (.cells #[.slice none 0 0, .int .i64 0] 25 (0, 0))) ∧ (D.getD 11 false = true → W.heap[y]? = some (.cells #[.slice a3 (fgS t l).length c3, .int .i64 now] 25 (0, 0)))
  m7 : D.getD 7 false = true → u 23 = u 30 ∧ D.getD 6 false = true
  m8 : D.getD 8 false = true → (∃ x z, u 30 = .tuple #[x, z] ∧ u 31 = x) ∧ D.getD 6 false = true
  o11 : D.getD 11 false = true → D.getD 6 false = true ∧ D.getD 10 false = true
theorem FoJ.start {w9 : World} {L : Nat} {sa : Option Addr} {n kk now m : Nat} {l : Chs} {u : Nat → Value} (h : SrcSt w9 L sa n kk) : FoJ w9 L sa n kk now l (Array.replicate m false) u w9.drew := by
  have no : ∀ j, (Array.replicate m false).getD j false = true → False := fun j hj => by
    by_cases hx : j < m
    · simp [hx] at hj
    · simp [hx] at hj
  exact ⟨grown_below (grown_refl _ _) (Below.refl _ _).drew, fun _ => h, fun h => (no _ h).elim, fun h => (no _ h).elim, fun _ h => (no _ h).elim, fun h => (no _ h).elim, fun h => (no _ h).elim, fun h => (no _ h).elim, fun h => (no _ h).elim⟩
/-- An operation that writes nothing of these. -/
theorem FoJ.step {w9 : World} {L : Nat} {sa : Option Addr} {n kk now : Nat} {l : Chs} {D : Array Bool} {u : Nat → Value} {W : World} (h : FoJ w9 L sa n kk now l D u W) {i d : Nat} {val : Value} (hi : i ≠ 5 ∧ i ≠ 6 ∧ i ≠ 7 ∧ i ≠ 8 ∧ i ≠ 10 ∧ i ≠ 11) (hd : d ≠ 29 ∧ d ≠ 30 ∧ d ≠ 23 ∧ d ≠ 31 ∧ d ≠ 5) :
    FoJ w9 L sa n kk now l (D.setIfInBounds i true) (upd u d val) W := by
  obtain ⟨i5, i6, i7, i8, i10, i11⟩ := hi
  obtain ⟨d1, d2, d3, d4, d5⟩ := hd
  have e5 : (D.setIfInBounds i true).getD 5 false = D.getD 5 false := getD_set_ne false i5
  have e6 : (D.setIfInBounds i true).getD 6 false = D.getD 6 false := getD_set_ne false i6
  have e7 : (D.setIfInBounds i true).getD 7 false = D.getD 7 false := getD_set_ne false i7
  have e8 : (D.setIfInBounds i true).getD 8 false = D.getD 8 false := getD_set_ne false i8
  have e10 : (D.setIfInBounds i true).getD 10 false = D.getD 10 false := getD_set_ne false i10
  have e11 : (D.setIfInBounds i true).getD 11 false = D.getD 11 false := getD_set_ne false i11
  have f1 : upd u d val 29 = u 29 := upd_ne _ _ (Ne.symm d1)
  have f2 : upd u d val 30 = u 30 := upd_ne _ _ (Ne.symm d2)
  have f3 : upd u d val 23 = u 23 := upd_ne _ _ (Ne.symm d3)
  have f4 : upd u d val 31 = u 31 := upd_ne _ _ (Ne.symm d4)
  have f5 : upd u d val 5 = u 5 := upd_ne _ _ (Ne.symm d5)
  obtain ⟨h1, h2, h3, h4, h5, h6, h7, h8, h9⟩ := h
  exact ⟨h1, by rw [e5]; exact h2, by rw [e5, f1]; exact h3, by rw [e6, e10, f2]; exact h4, by rw [e6, e10, f5]; exact h5, by rw [e6, e10, e11, f2, f5]; exact h6, by rw [e6, e7, f2, f3]; exact h7, by rw [e6, e8, f2, f4]; exact h8, by rw [e6, e10, e11]; exact h9⟩
/-- What was made stays while only the source's block turns. -/
theorem FoJ.five {w9 : World} {L : Nat} {sa : Option Addr} {n kk now : Nat} {l : Chs} {D : Array Bool} {u : Nat → Value} {W W' : World} (h : FoJ w9 L sa n kk now l D u W) (hL : L < w9.heap.size) (hg : W.grownBy W' (some L)) {t : Nat} (hs : 5 < D.size) (hS : SrcSt W' L sa n (kk + 1)) :
    FoJ w9 L sa n kk now l (D.setIfInBounds 5 true) (upd u 29 (.int .i64 t)) W' := by
  have e6 : (D.setIfInBounds 5 true).getD 6 false = D.getD 6 false := getD_set_ne false (by omega)
  have e7 : (D.setIfInBounds 5 true).getD 7 false = D.getD 7 false := getD_set_ne false (by omega)
  have e8 : (D.setIfInBounds 5 true).getD 8 false = D.getD 8 false := getD_set_ne false (by omega)
  have e10 : (D.setIfInBounds 5 true).getD 10 false = D.getD 10 false := getD_set_ne false (by omega)
  have e11 : (D.setIfInBounds 5 true).getD 11 false = D.getD 11 false := getD_set_ne false (by omega)
  have f2 : upd u 29 (Value.int .i64 t) 30 = u 30 := upd_ne _ _ (by omega)
  have f3 : upd u 29 (Value.int .i64 t) 23 = u 23 := upd_ne _ _ (by omega)
  have f4 : upd u 29 (Value.int .i64 t) 31 = u 31 := upd_ne _ _ (by omega)
  have f5 : upd u 29 (Value.int .i64 t) 5 = u 5 := upd_ne _ _ (by omega)
  obtain ⟨h1, h2, h3, h4, h5, h6, h7, h8, h9⟩ := h
  have ok : ∀ g, w9.heap.size ≤ g → g < W.heap.size → W'.heap[g]? = W.heap[g]? := fun g a1 a2 => hg.block g a2 (by simp; omega)
  refine ⟨grown_trans h1 hg, fun e => by simp [hs] at e, fun _ => ⟨hS, t, upd_at _ _ _⟩, ?_, ?_, ?_, by rw [e6, e7, f2, f3]; exact h7, by rw [e6, e8, f2, f4]; exact h8, by rw [e6, e10, e11]; exact h9⟩
  · rw [e6, e10, f2]
    intro q1 q2
    obtain ⟨t, a3, c3, z, r1, r2⟩ := h4 q1 q2
    exact ⟨t, a3, c3, z, r1, ChRow.wide (ChRow.keep r2 (fun g a1 a2 => ok g a1 a2)) (Nat.le_refl _) hg.size⟩
  · rw [e6, e10, f5]
    intro q1 q2
    obtain ⟨y, r1, r2, r3⟩ := h5 q1 q2
    exact ⟨y, r1, r2, (ok y r2 (Array.getElem?_eq_some_iff.1 r3).1).trans r3⟩
  · rw [e6, e10, e11, f2, f5]
    intro q1 q2
    obtain ⟨y, t, a3, c3, z, r1, r2, r3, r4, r5, r6, r7⟩ := h6 q1 q2
    exact ⟨y, t, a3, c3, z, r1, r2, Nat.lt_of_lt_of_le r3 hg.size, r4, r5.keep (by omega) r2 hg.size (fun g a1 a2 _ => ok g a1 a2), fun e => (ok y r2 r3).trans (r6 e), fun e => (ok y r2 r3).trans (r7 e)⟩
/-- The forgetting. -/
theorem FoJ.six {w9 : World} {L : Nat} {sa : Option Addr} {n kk now : Nat} {l : Chs} {D : Array Bool} {u : Nat → Value} {W W' : World} (h : FoJ w9 L sa n kk now l D u W) (hL : L < w9.heap.size) (hb : Below W.heap.size W W') {t : Nat} {a3 : Option Addr} {c3 z : Nat} (h6 : D.getD 6 false = false) (hD5 : D.getD 5 false = true) (hr : ChRow W.heap.size W'.heap.size W' a3 (fgS t l)) :
    FoJ w9 L sa n kk now l (D.setIfInBounds 6 true) (upd u 30 (foTup t a3 c3 z now l)) W' := by
  have e5 : (D.setIfInBounds 6 true).getD 5 false = D.getD 5 false := getD_set_ne false (by omega)
  have e7 : (D.setIfInBounds 6 true).getD 7 false = D.getD 7 false := getD_set_ne false (by omega)
  have e8 : (D.setIfInBounds 6 true).getD 8 false = D.getD 8 false := getD_set_ne false (by omega)
  have e10 : (D.setIfInBounds 6 true).getD 10 false = D.getD 10 false := getD_set_ne false (by omega)
  have e11 : (D.setIfInBounds 6 true).getD 11 false = D.getD 11 false := getD_set_ne false (by omega)
  have f1 : upd u 30 (foTup t a3 c3 z now l) 29 = u 29 := upd_ne _ _ (by omega)
  have f2 : upd u 30 (foTup t a3 c3 z now l) 30 = foTup t a3 c3 z now l := upd_at _ _ _
  have f5 : upd u 30 (foTup t a3 c3 z now l) 5 = u 5 := upd_ne _ _ (by omega)
  have hzW := h.grown.size
  obtain ⟨h1, h2, h3, h4, h5, h6', h7, h8, h9⟩ := h
  have n7 : ¬ D.getD 7 false = true := fun e => by have := (h7 e).2; rw [h6] at this; cases this
  have n8 : ¬ D.getD 8 false = true := fun e => by have := (h8 e).2; rw [h6] at this; cases this
  have n11 : ¬ D.getD 11 false = true := fun e => by have := (h9 e).1; rw [h6] at this; cases this
  refine ⟨grown_below h1 hb, fun e => (by rw [e5, hD5] at e; cases e), ?_, ?_, ?_, ?_, fun e => (n7 (e7 ▸ e)).elim, fun e => (n8 (e8 ▸ e)).elim, fun e => (n11 (e11 ▸ e)).elim⟩
  · rw [e5, f1]
    intro q
    obtain ⟨r1, r2⟩ := h3 q
    exact ⟨r1.move (hb.block L (by omega)), r2⟩
  · intro _ _
    exact ⟨t, a3, c3, z, f2, ChRow.wide hr hzW (Nat.le_refl _)⟩
  · intro q1 q2
    by_cases hs : 6 < D.size
    · simp [hs] at q1
    · exfalso
      have : D.getD 10 false = false := by simp [show ¬ 10 < D.size by omega]
      rw [e10, this] at q2; cases q2
  · rw [e10, e11, f2, f5]
    intro _ q2
    obtain ⟨y, r1, r2, r3⟩ := h5 h6 q2
    have hy := (Array.getElem?_eq_some_iff.1 r3).1
    exact ⟨y, t, a3, c3, z, r1, r2, Nat.lt_of_lt_of_le hy hb.size, rfl, .inr (ChRow.wide hr (by omega) (Nat.le_refl _)), fun _ => (hb.block y hy).trans r3, fun e => (n11 e).elim⟩
/-- The moves. -/
theorem FoJ.seven {w9 : World} {L : Nat} {sa : Option Addr} {n kk now : Nat} {l : Chs} {D : Array Bool} {u : Nat → Value} {W : World} (h : FoJ w9 L sa n kk now l D u W) (h6 : D.getD 6 false = true) :
    FoJ w9 L sa n kk now l (D.setIfInBounds 7 true) (upd u 23 (u 30)) W := by
  have e5 : (D.setIfInBounds 7 true).getD 5 false = D.getD 5 false := getD_set_ne false (by omega)
  have e6 : (D.setIfInBounds 7 true).getD 6 false = D.getD 6 false := getD_set_ne false (by omega)
  have e8 : (D.setIfInBounds 7 true).getD 8 false = D.getD 8 false := getD_set_ne false (by omega)
  have e10 : (D.setIfInBounds 7 true).getD 10 false = D.getD 10 false := getD_set_ne false (by omega)
  have e11 : (D.setIfInBounds 7 true).getD 11 false = D.getD 11 false := getD_set_ne false (by omega)
  have f29 : upd u 23 (u 30) 29 = u 29 := upd_ne _ _ (by omega)
  have f30 : upd u 23 (u 30) 30 = u 30 := upd_ne _ _ (by omega)
  have f31 : upd u 23 (u 30) 31 = u 31 := upd_ne _ _ (by omega)
  have f5 : upd u 23 (u 30) 5 = u 5 := upd_ne _ _ (by omega)
  have g23 : upd u 23 (u 30) 23 = u 30 := upd_at _ _ _
  obtain ⟨h1, h2, h3, h4, h5, h6', h7, h8, h9⟩ := h
  exact ⟨h1, by rw [e5]; exact h2, by rw [e5, f29]; exact h3, by rw [e6, e10, f30]; exact h4, by rw [e6, e10, f5]; exact h5, by rw [e6, e10, e11, f30, f5]; exact h6', fun _ => ⟨by rw [g23, f30], by rw [e6]; exact h6⟩, by rw [e6, e8, f30, f31]; exact h8, by rw [e6, e10, e11]; exact h9⟩
theorem FoJ.eight {w9 : World} {L : Nat} {sa : Option Addr} {n kk now : Nat} {l : Chs} {D : Array Bool} {u : Nat → Value} {W : World} (h : FoJ w9 L sa n kk now l D u W) (h6 : D.getD 6 false = true) {x z : Value} (hx : u 30 = .tuple #[x, z]) :
    FoJ w9 L sa n kk now l (D.setIfInBounds 8 true) (upd u 31 x) W := by
  have e5 : (D.setIfInBounds 8 true).getD 5 false = D.getD 5 false := getD_set_ne false (by omega)
  have e6 : (D.setIfInBounds 8 true).getD 6 false = D.getD 6 false := getD_set_ne false (by omega)
  have e7 : (D.setIfInBounds 8 true).getD 7 false = D.getD 7 false := getD_set_ne false (by omega)
  have e10 : (D.setIfInBounds 8 true).getD 10 false = D.getD 10 false := getD_set_ne false (by omega)
  have e11 : (D.setIfInBounds 8 true).getD 11 false = D.getD 11 false := getD_set_ne false (by omega)
  have f29 : upd u 31 (x) 29 = u 29 := upd_ne _ _ (by omega)
  have f30 : upd u 31 (x) 30 = u 30 := upd_ne _ _ (by omega)
  have f23 : upd u 31 (x) 23 = u 23 := upd_ne _ _ (by omega)
  have f5 : upd u 31 (x) 5 = u 5 := upd_ne _ _ (by omega)
  have g31 : upd u 31 x 31 = x := upd_at _ _ _
  obtain ⟨h1, h2, h3, h4, h5, h6', h7, h8, h9⟩ := h
  exact ⟨h1, by rw [e5]; exact h2, by rw [e5, f29]; exact h3, by rw [e6, e10, f30]; exact h4, by rw [e6, e10, f5]; exact h5, by rw [e6, e10, e11, f30, f5]; exact h6', by rw [e6, e7, f30, f23]; exact h7, fun _ => ⟨⟨x, z, by rw [f30]; exact hx, g31⟩, by rw [e6]; exact h6⟩, by rw [e6, e10, e11]; exact h9⟩
/-- The variable. -/
theorem FoJ.ten {w9 : World} {L : Nat} {sa : Option Addr} {n kk now : Nat} {l : Chs} {D : Array Bool} {u : Nat → Value} {W W' : World} (h : FoJ w9 L sa n kk now l D u W) (hL : L < w9.heap.size) (hb : Below W.heap.size W W') (hs : 10 < D.size) (h10 : D.getD 10 false = false) (hc : W'.heap[W.heap.size]? = some (.cells #[.slice none 0 0, .int .i64 0] 25 (0, 0))) :
    FoJ w9 L sa n kk now l (D.setIfInBounds 10 true) (upd u 5 (.pointer (some ⟨W.heap.size, 0, none⟩))) W' := by
  have e5 : (D.setIfInBounds 10 true).getD 5 false = D.getD 5 false := getD_set_ne false (by omega)
  have e6 : (D.setIfInBounds 10 true).getD 6 false = D.getD 6 false := getD_set_ne false (by omega)
  have e7 : (D.setIfInBounds 10 true).getD 7 false = D.getD 7 false := getD_set_ne false (by omega)
  have e8 : (D.setIfInBounds 10 true).getD 8 false = D.getD 8 false := getD_set_ne false (by omega)
  have e11 : (D.setIfInBounds 10 true).getD 11 false = D.getD 11 false := getD_set_ne false (by omega)
  have f29 : upd u 5 (Value.pointer (some ⟨W.heap.size, 0, none⟩)) 29 = u 29 := upd_ne _ _ (by omega)
  have f30 : upd u 5 (Value.pointer (some ⟨W.heap.size, 0, none⟩)) 30 = u 30 := upd_ne _ _ (by omega)
  have f23 : upd u 5 (Value.pointer (some ⟨W.heap.size, 0, none⟩)) 23 = u 23 := upd_ne _ _ (by omega)
  have f31 : upd u 5 (Value.pointer (some ⟨W.heap.size, 0, none⟩)) 31 = u 31 := upd_ne _ _ (by omega)
  have g5 : upd u 5 (Value.pointer (some ⟨W.heap.size, 0, none⟩)) 5 = Value.pointer (some ⟨W.heap.size, 0, none⟩) := upd_at _ _ _
  have hzW := h.grown.size
  have hlt := (Array.getElem?_eq_some_iff.1 hc).1
  obtain ⟨h1, h2, h3, h4, h5, h6', h7, h8, h9⟩ := h
  have n11 : ¬ D.getD 11 false = true := fun e => by have := (h9 e).2; rw [h10] at this; cases this
  refine ⟨grown_below h1 hb, ?_, ?_, fun _ e => (by simp [hs] at e), ?_, ?_, by rw [e6, e7, f30, f23]; exact h7, by rw [e6, e8, f30, f31]; exact h8, fun e => (n11 (e11 ▸ e)).elim⟩
  · rw [e5]; intro q; exact (h2 q).move (hb.block L (by omega))
  · rw [e5, f29]; intro q; exact ⟨(h3 q).1.move (hb.block L (by omega)), (h3 q).2⟩
  · intro _ _; exact ⟨W.heap.size, g5, hzW, hc⟩
  · rw [e6, e11, f30, g5]
    intro q1 _
    obtain ⟨t, a3, c3, z, r1, r2⟩ := h4 q1 h10
    exact ⟨W.heap.size, t, a3, c3, z, rfl, hzW, hlt, r1, .inl (ChRow.keep r2 (agree hb (Nat.le_refl _))), fun _ => hc, fun e => (n11 e).elim⟩
/-- The store. -/
theorem FoJ.eleven {w9 : World} {L : Nat} {sa : Option Addr} {n kk now : Nat} {l : Chs} {D : Array Bool} {u : Nat → Value} {W W' : World} (h : FoJ w9 L sa n kk now l D u W) (hL : L < w9.heap.size) (hs : 11 < D.size) (h6 : D.getD 6 false = true) (h10 : D.getD 10 false = true) {y t : Nat} {a3 : Option Addr} {c3 z : Nat} (q1 : u 5 = .pointer (some ⟨y, 0, none⟩)) (q2 : w9.heap.size ≤ y) (q3 : y < W.heap.size) (q4 : u 30 = foTup t a3 c3 z now l) (q5 : Beside w9.heap.size y W a3 (fgS t l)) (hg : ∀ g, g ≠ y → W'.heap[g]? = W.heap[g]?) (hz : W'.heap.size = W.heap.size) (hgr : w9.grownBy W' (some L))
    (hc : W'.heap[y]? = some (.cells #[.slice a3 (fgS t l).length c3, .int .i64 now] 25 (0, 0))) {val : Value} :
    FoJ w9 L sa n kk now l (D.setIfInBounds 11 true) (upd u 99 val) W' := by
  have e5 : (D.setIfInBounds 11 true).getD 5 false = D.getD 5 false := getD_set_ne false (by omega)
  have e6 : (D.setIfInBounds 11 true).getD 6 false = D.getD 6 false := getD_set_ne false (by omega)
  have e7 : (D.setIfInBounds 11 true).getD 7 false = D.getD 7 false := getD_set_ne false (by omega)
  have e8 : (D.setIfInBounds 11 true).getD 8 false = D.getD 8 false := getD_set_ne false (by omega)
  have e10 : (D.setIfInBounds 11 true).getD 10 false = D.getD 10 false := getD_set_ne false (by omega)
  have f29 : upd u 99 (val) 29 = u 29 := upd_ne _ _ (by omega)
  have f30 : upd u 99 (val) 30 = u 30 := upd_ne _ _ (by omega)
  have f23 : upd u 99 (val) 23 = u 23 := upd_ne _ _ (by omega)
  have f31 : upd u 99 (val) 31 = u 31 := upd_ne _ _ (by omega)
  have f5 : upd u 99 (val) 5 = u 5 := upd_ne _ _ (by omega)
  obtain ⟨h1, h2, h3, h4, h5, h6', h7, h8, h9⟩ := h
  refine ⟨hgr, ?_, ?_, ?_, ?_, ?_, by rw [e6, e7, f30, f23]; exact h7, by rw [e6, e8, f30, f31]; exact h8, fun _ => by rw [e6, e10]; exact ⟨h6, h10⟩⟩
  · rw [e5]; intro q; exact (h2 q).move (hg L (by omega))
  · rw [e5, f29]; intro q; exact ⟨(h3 q).1.move (hg L (by omega)), (h3 q).2⟩
  · rw [e10, h10]; intro _ e; cases e
  · rw [e6, h6]; intro e; cases e
  · rw [e6, e10, f30, f5]
    intro _ _
    exact ⟨y, t, a3, c3, z, q1, q2, by omega, q4, q5.keep (by omega) q2 (by omega) (fun g _ _ a3 => hg g a3), fun e => (by simp [hs] at e), fun _ => hc⟩
end Go.Proofs.Ytbpkjpoicelgcaa.G
namespace Go.Proofs.Ytbpkjpoicelgcaa.G
open Go.ChangeShapes Go.WideShapes Go.ChangeAt Go.RowKit
set_option linter.unusedVariables false

/-- What the operations of the writing tell. -/
def PuPv (L now : Nat) (a : Option Addr) (n c : Nat) : Nat → Value → World → Prop
  | 0, y, _ => y = .agg #[.slice a n c, .int .i64 now]
  | 1, y, _ => y = .pointer (some ⟨L, 0, none⟩)
  | _, _, _ => True
theorem PuPv.up {L now : Nat} {a : Option Addr} {n c : Nat} {W W' : World} {i : Nat} {y : Value} (h : PuPv L now a n c i y W) : PuPv L now a n c i y W' := by
  unfold PuPv at h ⊢
  split at h <;> exact h
def FoPv (L X now : Nat) (a : Option Addr) (n c : Nat) : Nat → Value → World → Prop
  | 0, y, _ => y = .agg #[.slice a n c, .int .i64 now]
  | 1, y, _ => y = .pointer (some ⟨L, 0, none⟩)
  | 2, y, _ => y = .pointer (some ⟨X, 1, none⟩)
  | 3, y, _ => y = .int .i64 now
  | 4, y, _ => y = .int .i64 ((now + 1 : Nat) : Int)
  | _, _, _ => True
theorem FoPv.up {L X now : Nat} {a : Option Addr} {n c : Nat} {W W' : World} {i : Nat} {y : Value} (h : FoPv L X now a n c i y W) : FoPv L X now a n c i y W' := by
  unfold FoPv at h ⊢
  split at h <;> exact h
theorem fo_dst : ∀ i, i < 12 → ∀ j, j < 12 → [24, 25, 26, 27, 28, 29, 30, 23, 31, 32, 5, 99].getD i 0 = [24, 25, 26, 27, 28, 29, 30, 23, 31, 32, 5, 99].getD j 0 → i = j := by decide
theorem NoCh.right {l : Chs} (h : NoCh l) : storeB l 0 = true := by
  rw [storeB_chains h.1 (by omega)]
  refine chainsB_true fun i hi => ?_
  rw [h.2 _ (List.getElem_mem hi)]
  rfl
/-- Where the drawing of a store stands: the store lies in block X, the source in block L. -/
def StIn (w : World) (L X : Nat) (sa : Option Addr) (n k : Nat) (w' : World) (m : Nat) : Prop :=
  ∃ (l : Chs) (now : Nat) (a' : Option Addr) (c' kk : Nat), m + now ≤ 13 ∧ kk + 15 * m ≤ k + 196 ∧ w'.heap[X]? = some (.cells #[.slice a' l.length c', .int .i64 now] 25 (0, 0)) ∧ Beside (w.heap.size + 1) X w' a' l ∧ storeB l now = true ∧ SrcSt w' L sa n kk ∧ w.grownBy w' (some L) ∧ w'.heap[w.heap.size]? = some (.cells #[.slice none 0 0, .int .i64 0] 25 (0, 0))
/-- The region 'x = l06Write(x, s.puts())': 2 draws the writes, 3 writes. -/
structure PuJ (w0 : World) (L X lo : Nat) (sa : Option Addr) (n kk now : Nat) (D : Array Bool) (u : Nat → Value) (W : World) : Prop where
  grown : w0.grownBy W (some L)
  before : D.getD 2 false = false → SrcSt W L sa n kk
  after_ : D.getD 2 false = true → SrcSt W L sa n (kk + 13) ∧ ∃ (ps : List Ve) (pa : Option Addr) (pc : Nat), u 19 = .slice pa ps.length pc ∧ VeRow 0 W.heap.size W pa ps ∧ ps.length ≤ 4 ∧ ∀ p ∈ ps, putB p.ts p.v = true
  wrote : D.getD 3 false = true → ∃ (l2 : Chs) (a2 : Option Addr) (c2 now2 : Nat), u 20 = .agg #[.slice a2 l2.length c2, .int .i64 now2] ∧ Beside lo X W a2 l2 ∧ storeB l2 now2 = true ∧ now2 ≤ now + 1
theorem PuJ.start {w0 : World} {L X lo : Nat} {sa : Option Addr} {n kk now m : Nat} {u : Nat → Value} (h : SrcSt w0 L sa n kk) : PuJ w0 L X lo sa n kk now (Array.replicate m false) u w0.drew := by
  have no : ∀ j, (Array.replicate m false).getD j false = true → False := fun j hj => by
    by_cases hx : j < m
    · simp [hx] at hj
    · simp [hx] at hj
  exact ⟨grown_below (grown_refl _ _) (Below.refl _ _).drew, fun _ => h, fun h => (no _ h).elim, fun h => (no _ h).elim⟩
theorem PuJ.step {w0 : World} {L X lo : Nat} {sa : Option Addr} {n kk now : Nat} {D : Array Bool} {u : Nat → Value} {W : World} (h : PuJ w0 L X lo sa n kk now D u W) {i d : Nat} {val : Value} (hi : i ≠ 2 ∧ i ≠ 3) (hd : d ≠ 19 ∧ d ≠ 20) : PuJ w0 L X lo sa n kk now (D.setIfInBounds i true) (upd u d val) W := by
  obtain ⟨i1, i2⟩ := hi
  obtain ⟨d1, d2⟩ := hd
  refine ⟨h.grown, fun h1 => ?_, fun h1 => ?_, fun h1 => ?_⟩
  · rw [getD_set_ne false i1] at h1; exact h.before h1
  · rw [getD_set_ne false i1] at h1; rw [upd_ne _ _ (Ne.symm d1)]; exact h.after_ h1
  · rw [getD_set_ne false i2] at h1; rw [upd_ne _ _ (Ne.symm d2)]; exact h.wrote h1
set_option maxHeartbeats 8000000 in
set_option maxRecDepth 40000 in
theorem store_any (L n k : Nat) (a : Option Addr) (w : World) (h : SrcSt w L a n k) (hr : ByteRow L w a n) (hk : k ≤ 90000) (hn : n ≤ 1048576) :
    Calls Try.prog 22 #[.pointer (some ⟨L, 0, none⟩)] w fun e w' => (∃ (l : Chs) (now : Nat) (v : Value), e = .returned (.agg #[v, .int .i64 now]) ∧ OwnK w.heap.size w' v l ∧ storeB l now = true ∧ now ≤ 13) ∧ w.grownBy w' (some L) := by
  obtain ⟨l0, hl0⟩ := noCh
  have hL := h.lt
  obtain ⟨wa, hwa⟩ : ∃ x : World, x = w.alloc (.cells #[.slice none 0 0, .int .i64 0] 25) := ⟨_, rfl⟩
  have za : wa.heap.size = w.heap.size + 1 := by rw [hwa]; simp
  have ba : Below w.heap.size w wa := by rw [hwa]; exact (Below.refl _ _).alloc (Nat.le_refl _) _
  have ca : wa.heap[w.heap.size]? = some (.cells #[.slice none 0 0, .int .i64 0] 25 (0, 0)) := by rw [hwa]; exact heap_alloc_new _ _
  have HS : Hid _ := h.move (ba.block L hL)
  have GA : Hid (w.grownBy wa (some L)) := grown_below (grown_refl _ _) ba
  have CA : Hid _ := ca
  have HR0 : Hid _ := hr
  have HL0 : Hid _ := hl0
  clear h hr ba ca hl0
  go_enter Try.func22, Try.ntmps22
  go_wp2_with fail
  rw [← hwa]
  refine (spec_new l0 HL0.out _).mono ?_
  rintro e w1 ⟨a1, rfl, o1, b1⟩
  have z1 := b1.size
  have HS1 : Hid _ := SrcSt.move HS.out (b1.block L (by omega))
  have G1 : Hid (w.grownBy w1 (some L)) := grown_below GA.out b1
  have C1 : Hid _ := (b1.block w.heap.size (by omega)).trans CA.out
  have O1 : Hid _ := o1
  clear o1 b1 HS GA CA
  obtain ⟨w2, hw2⟩ : ∃ x : World, x = w1.alloc (.cells #[.slice a1 l0.length 16, .int .i64 0] 25) := ⟨_, rfl⟩
  have z2 : w2.heap.size = w1.heap.size + 1 := by rw [hw2]; simp
  have b2 : Below w1.heap.size w1 w2 := by rw [hw2]; exact (Below.refl _ _).alloc (Nat.le_refl _) _
  have c2 : w2.heap[w1.heap.size]? = some (.cells #[.slice a1 l0.length 16, .int .i64 0] 25 (0, 0)) := by rw [hw2]; exact heap_alloc_new _ _
  have C2 : Hid _ := c2
  have HS2 : Hid _ := SrcSt.move HS1.out (b2.block L (by omega))
  have G2 : Hid (w.grownBy w2 (some L)) := grown_below G1.out b2
  have R2 : Hid _ := (b2.block w.heap.size (by omega)).trans C1.out
  have T2 : Hid (Beside (w.heap.size + 1) w1.heap.size w2 a1 l0) := .inl (ChRow.wide (ChRow.keep (StOwn.row O1.out) (agree b2 (Nat.le_refl _))) (by omega) (Nat.le_refl _))
  clear b2 c2 C1 G1 HS1 O1
  go_wp2_with fail
  rw [← hw2]
  refine (size_any L n k a _ HS2.out hn).mono ?_
  rintro e w3 ⟨⟨v, hv1, hv2, rfl⟩, b3⟩
  have z3 := b3.size
  have C3 : Hid _ := (b3.block w1.heap.size (by omega)).trans C2.out
  have HS3 : Hid _ := SrcSt.move HS2.out (b3.block L (by omega))
  have G3 : Hid (w.grownBy w3 (some L)) := grown_below G2.out b3
  have R3 : Hid _ := (b3.block w.heap.size (by omega)).trans R2.out
  have T3 : Hid (Beside (w.heap.size + 1) w1.heap.size w3 a1 l0) := Beside.keep T2.out (by omega) (by omega) (by omega) (fun g _ h2 _ => b3.block g h2)
  clear b3 C2 HS2 G2 R2 T2 hw2
  go_wp2_with fail
  rw [show (v : Int) + 4 = ((v + 4 : Nat) : Int) by omega]
  refine (next_any (v + 4) L n k a _ HS3.out (row_keep HR0.out G3.out) (by omega) hn (by omega) (by omega)).mono ?_
  rintro e w4 ⟨⟨q, hq, rfl⟩, s4, g4⟩
  have z4 := g4.size
  have I4 : Hid (StIn w L w1.heap.size a n k w4 q) := ⟨l0, 0, a1, 16, k + 1, by omega, by omega, (g4.block _ (by omega) (by simp; omega)).trans C3.out, Beside.keep T3.out (by omega) (by omega) (by omega) (fun g h1 h2 _ => g4.block g h2 (by simp; omega)), NoCh.right HL0.out, s4, grown_trans G3.out g4, (g4.block _ (by omega) (by simp; omega)).trans R3.out⟩
  obtain ⟨X, hX⟩ : ∃ X, X = w1.heap.size := ⟨_, rfl⟩
  rw [← hX] at I4 ⊢
  have hXR : w.heap.size + 1 ≤ X := by omega
  clear hX s4 g4 C3 HS3 G3 R3 T3 HL0
  go_wp2_with fail
  go_loopw [4] (fun i w' => ∃ (m : Nat), i = .int .i64 m ∧ Hid (StIn w L X a n k w' m)) (fun i _ => (intOf i).toNat)
  case atStart => exact ⟨q, rfl, I4⟩
  case round =>
    obtain ⟨wo, rfl⟩ : ∃ x, x = wr := ⟨_, rfl⟩
    obtain ⟨m, rfl, HI⟩ := hrel
    obtain ⟨l, now, a', c', kk, i1, i2, i3, i4, i5, i6, i7, i8⟩ := HI.out
    have E3 : Hid _ := i3
    have E4 : Hid _ := i4
    have E5 : Hid _ := i5
    have E6 : Hid _ := i6
    have E7 : Hid _ := i7
    have E8 : Hid _ := i8
    have zo := i7.size
    have hXl : X < wo.heap.size := (Array.getElem?_eq_some_iff.1 i3).1
    clear i3 i4 i5 i6 i7 i8 HI
    by_cases h0 : 0 < m
    case neg =>
      obtain rfl : m = 0 := by omega
      have x0 := fun o => row_cell E3.out o
      have hlen := storeB_bd E5.out
      have h16 := (storeB_all E5.out).1
      have HBD : Hid (ChsBd 1048576 l) := ⟨by omega, fun x hx => by have := hlen x hx; omega⟩
      clear hlen h16
      go_wp2_with fail
      refine (spec_l06Own a' c' l now _ (Beside.row E4.out (by omega)) HBD.out).mono ?_
      rintro e w5 ⟨v5, rfl, o5, b5⟩
      have c5 := (b5.block w.heap.size (by omega)).trans E8.out
      have x5 := fun o => row_cell c5 o
      have y5 := fun o => row_frozen c5 o
      have O5 : Hid _ := o5
      have G5 : Hid (w.grownBy w5 (some L)) := grown_below E7.out b5
      have z5 := b5.size
      obtain ⟨a9, c9, hv9, _⟩ := OwnK.chRow o5
      subst hv9
      clear b5 c5 o5 x0
      go_wp2_with fail
      refine bodyPost_ret (v := .agg #[.slice a9 l.length c9, .int .i64 now]) (by simp [results, Try.results22, go_sem, x5]) rfl ⟨⟨l, now, _, rfl, ?_, E5.out, by omega⟩, ?_⟩
      · obtain ⟨vs, h1, h2⟩ := OwnK.move O5.out (w' := (w5.setCell ⟨w.heap.size, 0, none⟩ (.slice a9 l.length c9)).setCell ⟨w.heap.size, 1, none⟩ (.int .i64 now)) (by simp) (fun k hk => by rw [heap_set _ _ _ _ _ (by omega), heap_set _ _ _ _ _ (by omega)])
        exact ⟨vs, own_low h1 (by omega), h2.low (by omega)⟩
      · exact grown_far (grown_far G5.out (Nat.le_refl _) _ _) (Nat.le_refl _) _ _
    have h0' : (0 : Int) < m := by omega
    go_upto_region 5 with fail
    go_cut [] from 17 to 20 (fun wx => Hid (∃ (l : Chs) (now : Nat) (a' : Option Addr) (c' : Nat), m + now ≤ 14 ∧ wx.heap[X]? = some (.cells #[.slice a' l.length c', .int .i64 now] 25 (0, 0)) ∧ Beside (w.heap.size + 1) X wx a' l ∧ storeB l now = true ∧ SrcSt wx L a n (kk + 13) ∧ w.grownBy wx (some L) ∧ wx.heap[w.heap.size]? = some (.cells #[.slice none 0 0, .int .i64 0] 25 (0, 0))))
    case first =>
      refine region_rel5 (n := 4) (k := 1) (by omega) (by kernel_rfl) (by kernel_rfl) (by kernel_rfl) (fun u => ⟨#[.pointer (some ⟨L, 0, none⟩), undef, .pointer (some ⟨w.heap.size, 0, none⟩), .pointer (some ⟨X, 0, none⟩), .int .i64 m, u5, u6, .agg #[.slice a1 l0.length 16, .int .i64 0], .pointer (some ⟨L, 0, none⟩), .pointer (some ⟨L, 0, none⟩), .int .i64 v, .int .i64 ((v : Int) + 4), .int .i64 q, .int .i64 m, .bool true, u15, u16, u 17, u 18, u 19, u 20, u21, u22, u23, u24, u25, u26, u27, u28, u29, u30, u31, u32, u33, undef, undef], []⟩) (fun n => match n with | 17 => u17 | 18 => u18 | 19 => u19 | 20 => u20 | _ => undef) (fun i => 17 + i) (fun i j _ _ h => by omega)
        (PuPv L now a' l.length c') (PuJ wo L X (w.heap.size + 1) a n kk now) (PuJ.start E6.out) ?step ?last
      case step =>
        intro D u W i hi hLs hLi hj hdep
        have hzW := hj.grown.size
        have oldb : ∀ g, g ≠ L → g < wo.heap.size → W.heap[g]? = wo.heap[g]? := fun g h1 hg => hj.grown.block g hg (by simp; omega)
        have hcase : i = 0 ∨ i = 1 ∨ i = 2 ∨ i = 3 := by omega
        rcases hcase with rfl | rfl | rfl | rfl
        · have x6 := fun o => row_cell ((oldb _ (by omega) hXl).trans E3.out) o
          refine wpOp_step rfl (fun K hK => ?_)
          clear hdep
          go_simp
          exact hK _ _ ⟨_, rfl, fun _ _ h => PuPv.up h, rfl, hj.step (by omega) (by omega)⟩
        · refine wpOp_step rfl (fun K hK => ?_)
          clear hdep
          go_simp
          exact hK _ _ ⟨_, rfl, fun _ _ h => PuPv.up h, rfl, hj.step (by omega) (by omega)⟩
        · have d1 : u 18 = .pointer (some ⟨L, 0, none⟩) := (hdep _ rfl ⟨1, .data⟩ (by simp) rfl).2
          have l2 : D.getD 2 false = false := by
            cases h8 : D.getD 2 false
            · rfl
            · rw [getD_both (by omega) h8] at hLi; cases hLi
          have HSW : Hid _ := hj.before l2
          have HRW : Hid _ := row_keep HR0.out (grown_trans E7.out hj.grown)
          refine wpOp_step rfl (fun K hK => ?_)
          clear hdep
          go_simp
          refine (puts_any L n kk a _ HSW.out HRW.out (by omega) hn).mono ?_
          rintro e w8 ⟨⟨ps, pa, pc, rfl, r8, hl8, hp8⟩, s8, g8⟩
          have hJ8 : PuJ wo L X (w.heap.size + 1) a n kk now (D.setIfInBounds 2 true) (upd u 19 (.slice pa ps.length pc)) w8 := by
            refine ⟨grown_trans hj.grown g8, fun h1 => ?_, fun _ => ⟨s8, ps, pa, pc, by rw [upd_at], r8, hl8, hp8⟩, fun h1 => ?_⟩
            · simp [show 2 < D.size by omega] at h1
            · rw [getD_set_ne false (by omega)] at h1
              rw [upd_ne _ _ (by omega)]
              obtain ⟨l2, a2, c2, now2, h1, h2, h3⟩ := hj.wrote h1
              exact ⟨l2, a2, c2, now2, h1, h2.keep (by omega) (by omega) g8.size (fun g a1 a2 a3 => g8.block g a2 (by simp; omega)), h3⟩
          exact hK _ _ ⟨_, by simp [upd, d1], fun _ _ h => PuPv.up h, trivial, hJ8⟩
        · have d0 : u 17 = .agg #[.slice a' l.length c', .int .i64 now] := (hdep _ rfl ⟨0, .data⟩ (by simp) rfl).2
          have l2 := (hdep _ rfl ⟨2, .data⟩ (by simp) rfl).1
          obtain ⟨s7, ps, pa, pc, d2, r7, hl7, hp7⟩ := hj.after_ l2
          have HBW : Hid (Beside (w.heap.size + 1) X W a' l) := Beside.keep E4.out (by omega) (by omega) hzW (fun g h1 h2 _ => oldb g (by omega) h2)
          have S7 : Hid _ := s7
          have R7 : Hid _ := r7
          have P7 : Hid _ := hp7
          refine wpOp_step rfl (fun K hK => ?_)
          clear hdep s7 r7 hp7
          go_simp
          refine (write_any a' pa c' pc l ps now X (w.heap.size + 1) _ HBW.out (by omega) (by omega) R7.out E5.out (by omega) hl7 P7.out).mono ?_
          rintro e w8 ⟨⟨l8, a8, c8, now8, rfl, h81, h82, h83⟩, b8⟩
          have hJ8 : PuJ wo L X (w.heap.size + 1) a n kk now (D.setIfInBounds 3 true) (upd u 20 (.agg #[.slice a8 l8.length c8, .int .i64 now8])) w8 := by
            refine ⟨grown_below hj.grown b8, fun h1 => ?_, fun _ => ⟨SrcSt.move S7.out (b8.block L (by omega)), ps, pa, pc, by rw [upd_ne _ _ (by omega)]; exact d2, VeRow.wide (VeRow.keep R7.out (agree b8 (Nat.le_refl _))) (Nat.le_refl _) b8.size, hl7, P7.out⟩, fun _ => ⟨l8, a8, c8, now8, by rw [upd_at], h81, h82, h83⟩⟩
            rw [getD_set_ne false (by omega), l2] at h1; cases h1
          exact hK _ _ ⟨_, by simp [upd, d0, d2], fun _ _ h => PuPv.up h, trivial, hJ8⟩
      case last =>
        intro D u W hLs hD hj hp
        have hzW := hj.grown.size
        obtain ⟨l8, a8, c8, now8, d3, h81, h82, h83⟩ := hj.wrote (hD 3 (by omega))
        have s8 := (hj.after_ (hD 2 (by omega))).1
        have cX : W.heap[X]? = _ := (hj.grown.block X hXl (by simp; omega)).trans E3.out
        have q2 := fun o => row_cell cX o
        have f2 := fun o => row_frozen cX o
        have HF : Hid (∃ (l : Chs) (now : Nat) (a' : Option Addr) (c' : Nat), m + now ≤ 14 ∧ ((W.setCell ⟨X, 0, none⟩ (.slice a8 l8.length c8)).setCell ⟨X, 1, none⟩ (.int .i64 now8)).heap[X]? = some (.cells #[.slice a' l.length c', .int .i64 now] 25 (0, 0)) ∧ Beside (w.heap.size + 1) X ((W.setCell ⟨X, 0, none⟩ (.slice a8 l8.length c8)).setCell ⟨X, 1, none⟩ (.int .i64 now8)) a' l ∧ storeB l now = true ∧ SrcSt ((W.setCell ⟨X, 0, none⟩ (.slice a8 l8.length c8)).setCell ⟨X, 1, none⟩ (.int .i64 now8)) L a n (kk + 13) ∧ w.grownBy ((W.setCell ⟨X, 0, none⟩ (.slice a8 l8.length c8)).setCell ⟨X, 1, none⟩ (.int .i64 now8)) (some L) ∧ ((W.setCell ⟨X, 0, none⟩ (.slice a8 l8.length c8)).setCell ⟨X, 1, none⟩ (.int .i64 now8)).heap[w.heap.size]? = some (.cells #[.slice none 0 0, .int .i64 0] 25 (0, 0))) := by
          refine ⟨l8, now8, a8, c8, by omega, ?_, ?_, h82, ?_, ?_, ?_⟩
          · have := row_set (row_set cX 0 (.slice a8 l8.length c8)) 1 (.int .i64 now8)
            simpa using this
          · exact Beside.keep h81 (by omega) (by omega) (by simp) (fun g h1 h2 h3 => by rw [heap_set _ _ _ _ _ h3, heap_set _ _ _ _ _ h3])
          · exact SrcSt.move s8 (by rw [heap_set _ _ _ _ _ (by omega), heap_set _ _ _ _ _ (by omega)])
          · exact grown_far (grown_far (grown_trans E7.out hj.grown) (by omega) _ _) (by omega) _ _
          · rw [heap_set _ _ _ _ _ (by omega), heap_set _ _ _ _ _ (by omega)]
            exact (hj.grown.block _ (by omega) (by simp; omega)).trans E8.out
        clear hp hj cX h81 h82 s8
        unfold wpTail
        refine wpOp_step rfl (fun K hK => ?_)
        go_simp
        refine hK _ _ ?_
        clear hK
        unfold wpTail
        go_wp2_with fail
        go_meet
        exact HF
    obtain ⟨wy, rfl⟩ : ∃ x, x = wc := ⟨_, rfl⟩
    clear E3 E4 E5 E6 E7 E8
    obtain ⟨l2, now2, a2, c2, j1, j2, j3, j4, j5, j6, j7⟩ := hcut.out
    have zy := j6.size
    have hXy : X < wy.heap.size := (Array.getElem?_eq_some_iff.1 j2).1
    have F2 : Hid _ := j2
    have F3 : Hid _ := j3
    have F4 : Hid _ := j4
    have F5 : Hid _ := j5
    have F6 : Hid _ := j6
    have F7 : Hid _ := j7
    clear j2 j3 j4 j5 j6 j7 hcut
    go_wp2_with fail
    refine (chance_any 6 L n (kk + 13) a _ F5.out (row_keep HR0.out F6.out) (by omega) hn (by omega) (by omega)).mono ?_
    rintro e w9 ⟨⟨B, rfl⟩, s9, g9⟩
    have z9 := g9.size
    have old9 : ∀ g, g ≠ L → g < wy.heap.size → w9.heap[g]? = wy.heap[g]? := fun g h1 hg => g9.block g hg (by simp; omega)
    have K2 : Hid _ := (old9 X (by omega) hXy).trans F2.out
    have K3 : Hid (Beside (w.heap.size + 1) X w9 a2 l2) := Beside.keep F3.out (by omega) (by omega) z9 (fun g h1 h2 _ => old9 g (by omega) h2)
    have K5 : Hid _ := s9
    have K6 : Hid (w.grownBy w9 (some L)) := grown_trans F6.out g9
    have K7 : Hid _ := (old9 w.heap.size (by omega) (by omega)).trans F7.out
    clear s9 g9 old9 F2 F3 F5 F6 F7
    cases B
    · go_wp2_with fail
      exact ⟨⟨m - 1, by go_num, ⟨l2, now2, a2, c2, kk + 13 + 1, by omega, by omega, K2.out, K3.out, F4.out, K5.out, K6.out, K7.out⟩⟩, by simp [intOf]; omega⟩
    · have hX9 : X < w9.heap.size := by omega
      have hbd2 := storeB_bd F4.out
      have hal2 := storeB_all F4.out
      have H16 : Hid _ := hal2.1
      have HBD : Hid (ChsBd 1048576 l2) := ⟨by have := hal2.1; omega, fun x hx => by have := hbd2 x hx; omega⟩
      have HRI : Hid (∀ i (h : i < l2.length), Rise l2[i]) := fun i hi => chain_rise (chainsB_at hal2.2.2.2 hi)
      clear hbd2 hal2
      go_upto_region 7 with fail
      go_cut [5] from 23 to 32 (fun p wx => ∃ (y t : Nat) (a3 : Option Addr) (c3 : Nat), p = .pointer (some ⟨y, 0, none⟩) ∧ w9.heap.size ≤ y ∧ Hid (wx.heap[y]? = some (.cells #[.slice a3 (fgS t l2).length c3, .int .i64 now2] 25 (0, 0))) ∧ Hid (Beside w9.heap.size y wx a3 (fgS t l2)) ∧ Hid (SrcSt wx L a n (kk + 13 + 1 + 1)) ∧ Hid (w9.grownBy wx (some L)))
      case first =>
        refine region_rel5 (n := 12) (k := 1) (by omega) (by kernel_rfl) (by kernel_rfl) (by kernel_rfl) (fun u => ⟨#[.pointer (some ⟨L, 0, none⟩), undef, .pointer (some ⟨w.heap.size, 0, none⟩), .pointer (some ⟨X, 0, none⟩), .int .i64 m, u 5, u6, .agg #[.slice a1 l0.length 16, .int .i64 0], .pointer (some ⟨L, 0, none⟩), .pointer (some ⟨L, 0, none⟩), .int .i64 v, .int .i64 ((v : Int) + 4), .int .i64 q, .int .i64 m, .bool true, u15, u16, u17, u18, u19, u20, .pointer (some ⟨L, 0, none⟩), .bool true, u 23, u 24, u 25, u 26, u 27, u 28, u 29, u 30, u 31, u 32, u33, undef, undef], []⟩) (fun n => match n with | 5 => u5 | 23 => u23 | 24 => u24 | 25 => u25 | 26 => u26 | 27 => u27 | 28 => u28 | 29 => u29 | 30 => u30 | 31 => u31 | 32 => u32 | _ => undef) (fun i => [24, 25, 26, 27, 28, 29, 30, 23, 31, 32, 5, 99].getD i 0) (fun i j hi hj h => fo_dst i hi j hj h)
          (FoPv L X now2 a2 l2.length c2) (FoJ w9 L a n (kk + 13 + 1) now2 l2) (FoJ.start K5.out) ?step ?last
        case step =>
          intro D u W i hi hLs hLi hj hdep
          have hzW := hj.grown.size
          have oldb : ∀ g, g ≠ L → g < w9.heap.size → W.heap[g]? = w9.heap[g]? := fun g h1 hg => hj.grown.block g hg (by simp; omega)
          have hcase : i = 0 ∨ i = 1 ∨ i = 2 ∨ i = 3 ∨ i = 4 ∨ i = 5 ∨ i = 6 ∨ i = 7 ∨ i = 8 ∨ i = 9 ∨ i = 10 ∨ i = 11 := by omega
          rcases hcase with rfl | rfl | rfl | rfl | rfl | rfl | rfl | rfl | rfl | rfl | rfl | rfl
          · have x6 := fun o => row_cell ((oldb _ (by omega) hX9).trans K2.out) o
            refine wpOp_step rfl (fun K hK => ?_)
            clear hdep
            go_simp
            exact hK _ _ ⟨_, rfl, fun _ _ h => FoPv.up h, rfl, hj.step (by omega) (by simp)⟩
          · refine wpOp_step rfl (fun K hK => ?_)
            clear hdep
            go_simp
            exact hK _ _ ⟨_, rfl, fun _ _ h => FoPv.up h, rfl, hj.step (by omega) (by simp)⟩
          · refine wpOp_step rfl (fun K hK => ?_)
            clear hdep
            go_simp
            exact hK _ _ ⟨_, rfl, fun _ _ h => FoPv.up h, rfl, hj.step (by omega) (by simp)⟩
          · have d2 : u 26 = .pointer (some ⟨X, 1, none⟩) := (hdep _ rfl ⟨2, .data⟩ (by simp) rfl).2
            have x6 := fun o => row_cell ((oldb _ (by omega) hX9).trans K2.out) o
            refine wpOp_step rfl (fun K hK => ?_)
            clear hdep
            go_simp
            exact hK _ _ ⟨_, by simp [upd, d2], fun _ _ h => FoPv.up h, rfl, hj.step (by omega) (by simp)⟩
          · have d3 : u 27 = .int .i64 now2 := (hdep _ rfl ⟨3, .data⟩ (by simp) rfl).2
            refine wpOp_step rfl (fun K hK => ?_)
            clear hdep
            go_simp
            have hwr : IntKind.i64.wrap ((now2 : Int) + 1) = (now2 : Int) + 1 := by unfold IntKind.wrap; simp [IntKind.bits, IntKind.signed]; omega
            exact hK _ _ ⟨.int .i64 ((now2 + 1 : Nat) : Int), by simp [upd, d3, hwr], fun _ _ h => FoPv.up h, rfl, hj.step (by omega) (by simp)⟩
          · have d1 : u 25 = .pointer (some ⟨L, 0, none⟩) := (hdep _ rfl ⟨1, .data⟩ (by simp) rfl).2
            have d4 : u 28 = .int .i64 ((now2 + 1 : Nat) : Int) := (hdep _ rfl ⟨4, .data⟩ (by simp) rfl).2
            have l5 : D.getD 5 false = false := by
              cases h8 : D.getD 5 false
              · rfl
              · rw [getD_both (by omega) h8] at hLi; cases hLi
            have HSW : Hid _ := hj.s0 l5
            have HRW : Hid _ := row_keep HR0.out (grown_trans K6.out hj.grown)
            have HJ : Hid _ := hj
            refine wpOp_step rfl (fun K hK => ?_)
            clear hdep
            go_simp
            refine (next_pos (now2 + 1) L n _ a _ HSW.out HRW.out (by omega) hn (by omega) (by omega)).mono ?_
            rintro e w8 ⟨⟨t, ht, rfl⟩, s8, g8⟩
            exact hK _ _ ⟨.int .i64 t, by simp [upd, d1, d4], fun _ _ h => FoPv.up h, trivial, FoJ.five HJ.out (by omega) g8 (by omega) s8⟩
          · have d0 : u 24 = .agg #[.slice a2 l2.length c2, .int .i64 now2] := (hdep _ rfl ⟨0, .data⟩ (by simp) rfl).2
            have l5 := (hdep _ rfl ⟨5, .data⟩ (by simp) rfl).1
            have l6 : D.getD 6 false = false := by
              cases h8 : D.getD 6 false
              · rfl
              · rw [getD_both (by omega) h8] at hLi; cases hLi
            obtain ⟨t, d5⟩ := (hj.s1 l5).2
            have HBW : Hid (Beside (w.heap.size + 1) X W a2 l2) := Beside.keep K3.out (by omega) (by omega) hzW (fun g h1 h2 _ => oldb g (by omega) h2)
            have HJ : Hid _ := hj
            refine wpOp_step rfl (fun K hK => ?_)
            clear hdep
            go_simp
            refine (spec_l06Forget a2 c2 l2 now2 t _ (Beside.row HBW.out (by omega)) HBD.out H16.out HRI.out).mono ?_
            rintro e w8 ⟨a8, c8, rfl, r8, b8⟩
            exact hK _ _ ⟨foTup t a8 c8 (goS t l2) now2 l2, by simp [upd, d0, d5, foTup], fun _ _ h => FoPv.up h, trivial, FoJ.six HJ.out (by omega) b8 l6 l5 r8⟩
          · have l6 := (hdep _ rfl ⟨6, .data⟩ (by simp) rfl).1
            have HJ : Hid _ := hj
            refine wpOp_step rfl (fun K hK => ?_)
            clear hdep
            go_simp
            exact hK _ _ ⟨u 30, rfl, fun _ _ h => FoPv.up h, trivial, FoJ.seven HJ.out l6⟩
          · have l7 := (hdep _ rfl ⟨7, .data⟩ (by simp) rfl).1
            obtain ⟨e23, l6⟩ := hj.m7 l7
            obtain ⟨x, z, h30, hx⟩ : ∃ (x z : Value), u 30 = .tuple #[x, z] ∧ u 23 = .tuple #[x, z] := by
              by_cases l10 : D.getD 10 false = true
              · obtain ⟨_, t, a3, c3, z, _, _, _, h4, _⟩ := hj.d l6 l10
                exact ⟨_, _, h4, e23.trans h4⟩
              · obtain ⟨t, a3, c3, z, h4, _⟩ := hj.b l6 (by simpa using l10)
                exact ⟨_, _, h4, e23.trans h4⟩
            have HJ : Hid _ := hj
            refine wpOp_step rfl (fun K hK => ?_)
            clear hdep e23
            go_simp
            exact hK _ _ ⟨x, by simp [upd, hx, h30], fun _ _ h => FoPv.up h, trivial, FoJ.eight HJ.out l6 h30⟩
          · have l7 := (hdep _ rfl ⟨7, .data⟩ (by simp) rfl).1
            obtain ⟨e23, l6⟩ := hj.m7 l7
            obtain ⟨x, z, h30, hx⟩ : ∃ (x z : Value), u 30 = .tuple #[x, z] ∧ u 23 = .tuple #[x, z] := by
              by_cases l10 : D.getD 10 false = true
              · obtain ⟨_, t, a3, c3, z, _, _, _, h4, _⟩ := hj.d l6 l10
                exact ⟨_, _, h4, e23.trans h4⟩
              · obtain ⟨t, a3, c3, z, h4, _⟩ := hj.b l6 (by simpa using l10)
                exact ⟨_, _, h4, e23.trans h4⟩
            have HJ : Hid _ := hj
            refine wpOp_step rfl (fun K hK => ?_)
            clear hdep e23
            go_simp
            exact hK _ _ ⟨z, by simp [upd, hx, h30], fun _ _ h => FoPv.up h, trivial, FoJ.step HJ.out (by omega) (by simp)⟩
          · have l10 : D.getD 10 false = false := by
              cases h8 : D.getD 10 false
              · rfl
              · rw [getD_both (by omega) h8] at hLi; cases hLi
            have HJ : Hid _ := hj
            refine wpOp_step rfl (fun K hK => ?_)
            clear hdep
            go_simp
            exact hK _ _ ⟨.pointer (some ⟨W.heap.size, 0, none⟩), rfl, fun _ _ h => FoPv.up h, trivial, FoJ.ten HJ.out (by omega) ((Below.refl _ _).alloc (Nat.le_refl _) _) (by omega) l10 (heap_alloc_new _ _)⟩
          · have l10 := (hdep _ rfl ⟨10, .data⟩ (by simp) rfl).1
            have l8 := (hdep _ rfl ⟨8, .data⟩ (by simp) rfl).1
            obtain ⟨⟨x, z, h30, h31⟩, l6⟩ := hj.m8 l8
            have l11 : D.getD 11 false = false := by
              cases h8 : D.getD 11 false
              · rfl
              · rw [getD_both (by omega) h8] at hLi; cases hLi
            obtain ⟨y, t, a3, c3, z', q1, q2, q3, q4, q5, q6, _⟩ := hj.d l6 l10
            have hxe : x = .agg #[.slice a3 (fgS t l2).length c3, .int .i64 now2] := by
              rw [h30] at q4
              simp only [foTup, Value.tuple.injEq, Array.mk.injEq, List.cons.injEq] at q4
              exact q4.1
            subst hxe
            have cy := q6 l11
            have hc2 : ((W.setCell ⟨y, 0, none⟩ (.slice a3 (fgS t l2).length c3)).setCell ⟨y, 1, none⟩ (.int .i64 now2)).heap[y]? = some (.cells #[.slice a3 (fgS t l2).length c3, .int .i64 now2] 25 (0, 0)) := by
              have := row_set (row_set cy 0 (.slice a3 (fgS t l2).length c3)) 1 (.int .i64 now2)
              simpa using this
            have HJ2 : Hid (∀ val, FoJ w9 L a n (kk + 13 + 1) now2 l2 (D.setIfInBounds 11 true) (upd u 99 val) ((W.setCell ⟨y, 0, none⟩ (.slice a3 (fgS t l2).length c3)).setCell ⟨y, 1, none⟩ (.int .i64 now2))) := fun val => FoJ.eleven hj (by omega) (by omega) l6 l10 q1 q2 q3 q4 q5 (fun g hg => by rw [heap_set _ _ _ _ _ hg, heap_set _ _ _ _ _ hg]) (by simp) (grown_far (grown_far hj.grown q2 _ _) q2 _ _) hc2
            have x6 := fun o => row_cell cy o
            have y6 := fun o => row_frozen cy o
            refine wpOp_step rfl (fun K hK => ?_)
            clear hdep hc2 cy q4 q5 q6 h30
            go_simp
            exact hK _ _ ⟨undef, by simp [upd, q1, h31], fun _ _ h => FoPv.up h, trivial, HJ2.out _⟩
        case last =>
          intro D u W hLs hD hj hp
          obtain ⟨y, t, a3, c3, z, q1, q2, q3, q4, q5, _, q7⟩ := hj.d (hD 6 (by omega)) (hD 10 (by omega))
          have Q7 : Hid _ := q7 (hD 11 (by omega))
          have Q5 : Hid _ := q5
          have QS : Hid _ := (hj.s1 (hD 5 (by omega))).1
          have QG : Hid _ := hj.grown
          clear hp hj q4 q5 q7
          unfold wpTail
          refine wpOp_step rfl (fun K hK => ?_)
          go_simp
          refine hK _ _ ?_
          clear hK
          unfold wpTail
          go_wp2_with fail
          go_meet
          exact ⟨y, t, a3, c3, rfl, q2, Q7, Q5, QS, QG⟩
      obtain ⟨wz, rfl⟩ : ∃ x, x = wc := ⟨_, rfl⟩
      obtain ⟨y, t, a3, c3, rfl, hy, M2, M3, M5, M6⟩ := hcut
      have zz := M6.out.size
      have hyl : y < wz.heap.size := (Array.getElem?_eq_some_iff.1 M2.out).1
      have cX := (M6.out.block X hX9 (by simp; omega)).trans K2.out
      have cR := (M6.out.block w.heap.size (by omega) (by simp; omega)).trans K7.out
      have x1 := fun o => row_cell M2.out o
      have x2 := fun o => row_cell cX o
      have y2 := fun o => row_frozen cX o
      have HF : Hid (StIn w L X a n k ((wz.setCell ⟨X, 0, none⟩ (.slice a3 (fgS t l2).length c3)).setCell ⟨X, 1, none⟩ (.int .i64 now2)) (m - 1)) := by
        refine ⟨fgS t l2, now2, a3, c3, kk + 13 + 1 + 1, by omega, by omega, ?_, ?_, storeB_fg _ F4.out, ?_, ?_, ?_⟩
        · have := row_set (row_set cX 0 (.slice a3 (fgS t l2).length c3)) 1 (.int .i64 now2)
          simpa using this
        · refine Beside.keep (show Beside (w.heap.size + 1) X wz a3 (fgS t l2) from .inr ?_) (by omega) (by omega) (by simp) (fun g h1 h2 h3 => by rw [heap_set _ _ _ _ _ h3, heap_set _ _ _ _ _ h3])
          rcases M3.out with h | h
          · exact ChRow.wide h (by omega) (by omega)
          · exact ChRow.wide h (by omega) (Nat.le_refl _)
        · exact SrcSt.move M5.out (by rw [heap_set _ _ _ _ _ (by omega), heap_set _ _ _ _ _ (by omega)])
        · exact grown_far (grown_far (grown_trans K6.out M6.out) (by omega) _ _) (by omega) _ _
        · rw [heap_set _ _ _ _ _ (by omega), heap_set _ _ _ _ _ (by omega)]
          exact cR
      clear cX cR
      go_wp2_with fail
      exact ⟨⟨m - 1, by go_num, HF⟩, by simp [intOf]; omega⟩
end Go.Proofs.Ytbpkjpoicelgcaa.G
