/- The program's TxnOK. -/
import Derived.Test.YtoahbfledamnnaaStStoreTwo
import Derived.Test.YtoahbfledamnnaaStTxDraw
import Derived.Test.YtoahbfledamnnaaStKids
namespace Go.Proofs.Ytoahbfledamnnaa.G
open Go.ChangeShapes Go.WideShapes Go.ChangeAt Go.RowKit
set_option linter.unusedVariables false

set_option maxHeartbeats 1000000 in
theorem storeOf_any (n c : Nat) (a : Option Addr) (w : World) (hr : ByteRow w.heap.size w a n) (hn : n ≤ 1048576) :
    Calls Try.prog 5 #[.slice a n c] w fun e w' => (∃ (l : Chs) (now : Nat) (v : Value), e = .returned (.agg #[v, .int .i64 now]) ∧ OwnK w.heap.size w' v l ∧ storeB l now = true ∧ now ≤ 13) ∧ Below w.heap.size w w' := by
  obtain ⟨wa, hwa⟩ : ∃ x : World, x = w.alloc (.cells #[.slice none 0 0, .int .i64 0] 25) := ⟨_, rfl⟩
  have za : w.heap.size + 1 ≤ wa.heap.size := by rw [hwa]; simp
  have ba : Below w.heap.size w wa := by rw [hwa]; exact (Below.refl _ _).alloc (Nat.le_refl _) _
  have ca : wa.heap[w.heap.size]? = some (.cells #[.slice none 0 0, .int .i64 0] 25 (0, 0)) := by rw [hwa]; exact heap_alloc_new _ _
  have HR : Hid _ := ByteRow.up hr (Nat.le_refl _) ba
  have BA : Hid _ := ba
  have CA : Hid _ := ca
  clear hr ba ca
  go_enter Try.func5, Try.ntmps5
  go_wp2_with fail
  rw [← hwa]
  clear hwa
  refine (source_any n c a _ hn).mono ?_
  rintro e w1 ⟨rfl, s1, b1⟩
  have z1 := b1.size
  have HR1 : Hid (ByteRow wa.heap.size w1 a n) := by
    rcases HR.out with h | ⟨b, o, e, h1, h2, h3⟩
    · exact .inl h
    · refine .inr ⟨b, o, e, by omega, by omega, fun i hi => ?_⟩
      obtain ⟨x, hx, e⟩ := h3 i hi
      exact ⟨x, hx, (World.cell?_of_block (w := wa) (b1.block b (by omega))).trans e⟩
  have HS1 : Hid _ := s1
  have B1 : Hid (Below w.heap.size w w1) := BA.out.trans (b1.mono (by omega))
  have C1 : Hid _ := (b1.block w.heap.size (by omega)).trans CA.out
  clear s1 b1 HR BA CA
  go_wp2_with fail
  refine (store_any wa.heap.size n 0 a _ HS1.out HR1.out (by omega) hn).mono ?_
  rintro e w2 ⟨⟨l, now, v, rfl, o2, s2, n2⟩, g2⟩
  have z2 := g2.size
  have c2 := (g2.block w.heap.size (by omega) (by simp; omega)).trans C1.out
  have x2 := fun o => row_cell c2 o
  have y2 := fun o => row_frozen c2 o
  obtain ⟨a9, c9, hv9, _⟩ := OwnK.chRow o2
  subst hv9
  have O2 : Hid _ := o2
  have S2 : Hid _ := s2
  have B2 : Hid (Below w.heap.size w w2) := B1.out.grown g2 (by omega) (fun k hk => by simp only [Option.some.injEq] at hk; omega)
  clear o2 s2 g2 c2 HS1 HR1 B1 C1
  go_wp2_with fail
  refine bodyPost_ret (v := .agg #[.slice a9 l.length c9, .int .i64 now]) (by simp [results, Try.results5, go_sem, x2]) rfl ⟨⟨l, now, _, rfl, ?_, S2.out, by omega⟩, ?_⟩
  · obtain ⟨vs, h1, h2⟩ := OwnK.move O2.out (w' := (w2.setCell ⟨w.heap.size, 0, none⟩ (.slice a9 l.length c9)).setCell ⟨w.heap.size, 1, none⟩ (.int .i64 now)) (by simp) (fun k hk => by rw [heap_set _ _ _ _ _ (by omega), heap_set _ _ _ _ _ (by omega)])
    exact ⟨vs, own_low h1 (by omega), h2.low (by omega)⟩
  · repeat (refine Below.setCell ?_ (by first | omega | (simp <;> omega)) _)
    exact B2.out
set_option maxHeartbeats 2000000 in
theorem at_zero (a : Option Addr) (m c N : Nat) (w : World) (hr : ByteRow w.heap.size w a m) (hm : m ≤ 1048576) (hN : 1 ≤ N) (hN2 : N ≤ 100000) :
    Calls Try.prog 9 #[.slice a m c, .int .i64 0, .int .i64 N] w fun e w' => (∃ v : Nat, v < N ∧ e = .returned (.int .i64 v)) ∧ Below w.heap.size w w' := by
  by_cases h1 : N = 1
  · subst h1
    clear hr
    go_enter Try.func9, Try.ntmps9
    go_wp2_with fail
    go_ret
    exact ⟨⟨0, by omega, rfl⟩, Below.refl _ _⟩
  have hNi : ¬ (N : Int) ≤ 1 := by omega
  have hNz : (N : Int) ≠ 0 := by omega
  by_cases h0 : m = 0
  · subst h0
    clear hr
    go_enter Try.func9, Try.ntmps9
    go_wp2_with fail
    go_ret
    exact ⟨⟨0, by omega, by simp⟩, Below.refl _ _⟩
  · obtain ⟨b, o, rfl, hb, hc⟩ := hr.at_ (by omega)
    obtain ⟨r2, q2, b2⟩ := tmod_nat 1 m (by omega)
    obtain ⟨c1, l1, e1⟩ := hc 0 (by omega)
    obtain ⟨c2, l2, e2⟩ := hc r2 b2
    obtain ⟨r4, q4, b4⟩ := tmod_int (x := (c1 : Int) * 31 + c2) (m := N) (by omega) (by omega)
    have HR : Hid _ := q4
    have hb2 : (r2 : Int) < m := by omega
    have hmz : (m : Int) ≠ 0 := by omega
    have hm1 : (0 : Int) < m := by omega
    have q2' : (1 : Int).tmod m = r2 := q2
    have hz0 : (0 : Int).tmod m = 0 := Int.zero_tmod _
    have hz1 : (0 : Int).tdiv m = 0 := Int.zero_tdiv _
    rw [Nat.add_zero] at e1
    clear hc hr q4 q2
    go_enter Try.func9, Try.ntmps9
    go_wp2_with fail
    go_quiet (fail)
    go_wp2_with fail
    go_ret
    exact ⟨⟨r4, b4, by rw [← HR.out]; rfl⟩, ⟨rfl, rfl, rfl, Nat.le_refl _, fun _ _ => rfl⟩⟩
end Go.Proofs.Ytoahbfledamnnaa.G
namespace Go.Proofs.Ytoahbfledamnnaa.G
open Go.ChangeShapes Go.WideShapes Go.ChangeAt Go.RowKit
set_option linter.unusedVariables false

set_option maxHeartbeats 2000000 in
theorem txnOf_any (n c2 : Nat) (sa a : Option Addr) (c : Nat) (l : Chs) (now : Nat) (w : World) (hr : ByteRow w.heap.size w sa n) (hn : n ≤ 1048576) (hs : ChRow 0 w.heap.size w a l) (hst : storeB l now = true) (hnow : now ≤ 13) :
    Calls Try.prog 13 #[.slice sa n c2, .agg #[.slice a l.length c, .int .i64 now]] w fun e w' => (∃ (st : Int) (rs : List Int) (ws : List Ve) (ra : Option Addr) (rq : Nat) (wa : Option Addr) (wq : Nat), e = .returned (.agg #[.int .i64 st, .slice ra rs.length rq, .slice wa ws.length wq]) ∧ TxRow 0 w'.heap.size w' ra wa rs ws ∧ txnB l now st rs ws = true ∧ rs.length ≤ rq) ∧ Below w.heap.size w w' := by
  obtain ⟨wa, hwa⟩ : ∃ x : World, x = (w.alloc (.cells #[.slice a l.length c, .int .i64 now] 25)).alloc (.cells txZ 30) := ⟨_, rfl⟩
  have za : w.heap.size + 2 ≤ wa.heap.size := by rw [hwa]; simp
  have ba : Below w.heap.size w wa := by
    rw [hwa]
    repeat (first | exact Below.refl _ _ | refine Below.alloc ?_ (by first | omega | (simp <;> omega)) _)
  have ca : wa.heap[w.heap.size]? = some (.cells #[.slice a l.length c, .int .i64 now] 25 (0, 0)) := by
    rw [hwa, Below.heap_alloc _ _ _ (by simp)]; exact heap_alloc_new _ _
  have cb : wa.heap[w.heap.size + 1]? = some (.cells txZ 30 (0, 0)) := by
    rw [hwa]
    have := heap_alloc_new (w.alloc (.cells #[.slice a l.length c, .int .i64 now] 25)) (.cells txZ 30)
    simpa using this
  have KV : Hid (∀ W, Below wa.heap.size wa W → W.heap[w.heap.size]? = some (.cells #[.slice a l.length c, .int .i64 now] 25 (0, 0)) ∧ W.heap[w.heap.size + 1]? = some (.cells txZ 30 (0, 0)) ∧ Below w.heap.size w W) := fun W h =>
    ⟨(h.block _ (by omega)).trans ca, (h.block _ (by omega)).trans cb, ba.trans (h.mono (by omega))⟩
  have HR : Hid (ByteRow w.heap.size wa sa n) := ByteRow.up hr (Nat.le_refl _) ba
  have HC : Hid (ChRow 0 wa.heap.size wa a l) := ChRow.up hs ba
  have HST : Hid _ := hst
  have xa := fun o => row_cell ca o
  clear hr hs hst ba ca cb
  go_enter Try.func13, Try.ntmps13
  go_upto_region 1 with fail
  rw [show (#[Value.int IntKind.i64 0, Value.slice none 0 0, Value.slice none 0 0] : Array Value) = txZ from rfl]
  rw [← hwa]
  clear hwa
  go_region_with (first
    | (go_at_call 21
       refine Calls.mono (source_any n c2 sa _ hn) ?_
       rintro e v1 ⟨rfl, s1, b1⟩
       have q1 : Below wa.heap.size wa v1 := (Below.refl _ _).drew.trans b1
       have z1 := q1.size
       have S1 : Hid (SrcSt v1 wa.heap.size sa n 0) := s1
       have Q1 : Hid _ := q1
       have xb := fun o => row_cell (KV.out _ q1).1 o
       have R1 : Hid (ByteRow wa.heap.size v1 sa n) := by
         rcases HR.out with h | ⟨b, o, e, h1, h2, h3⟩
         · exact .inl h
         · refine .inr ⟨b, o, e, by omega, by omega, fun i hi => ?_⟩
           obtain ⟨x, hx, e⟩ := h3 i hi
           exact ⟨x, hx, (World.cell?_of_block (w := wa) (q1.block b (by omega))).trans e⟩
       have C1 : Hid (ChRow 0 wa.heap.size v1 a l) := ChRow.keep HC.out (agree q1 (Nat.le_refl _))
       clear s1 b1 q1)
    | (go_at_call 35
       refine Calls.mono (txn_any wa.heap.size n 0 sa a c l now _ S1.out R1.out (by omega) hn C1.out HST.out hnow) ?_
       rintro e v2 ⟨⟨st, rs, ws, ra, rq, wv, wq, rfl, r2, t2, k2⟩, g2⟩
       have z2 := g2.size
       have D2 : Hid (v2.heap[w.heap.size + 1]? = some (.cells txZ 30 (0, 0))) := (g2.block _ (by omega) (by simp; omega)).trans (KV.out _ Q1.out).2.1
       have BW : Hid (Below w.heap.size w v2) := (KV.out _ Q1.out).2.2.grown g2 (by omega) (fun k hk => by simp only [Option.some.injEq] at hk; omega)
       have y2 := fun o => row_cell D2.out o
       have f2 := fun o => row_frozen D2.out o
       have R2 : Hid _ := r2
       have T2 : Hid _ := t2
       clear g2 r2 t2))
  all_goals (try go_wp2_with fail)
  all_goals (refine bodyPost_ret (v := .agg #[.int .i64 st, .slice ra rs.length rq, .slice wv ws.length wq]) (by simp [results, Try.results13, go_sem, y2]) rfl ⟨⟨st, rs, ws, ra, rq, wv, wq, rfl, ⟨?_, ?_⟩, T2.out, k2⟩, ?_⟩)
  all_goals (first
    | (repeat (refine Below.setCell ?_ (by first | omega | (simp <;> omega)) _)
       exact BW.out)
    | (refine NuOwn.row0 (NuOwn.kept2 R2.out.1 (by simp) (fun g cs hc => ?_))
       have : g ≠ w.heap.size + 1 := by rintro rfl; rw [D2.out] at hc; simp at hc
       rw [heap_set _ _ _ _ _ this, heap_set _ _ _ _ _ this, heap_set _ _ _ _ _ this])
    | (have h1 := own_set R2.out.2 (w' := ((v2.setCell ⟨w.heap.size + 1, 0, none⟩ (.int .i64 st)).setCell ⟨w.heap.size + 1, 1, none⟩ (.slice ra rs.length rq)).setCell ⟨w.heap.size + 1, 2, none⟩ (.slice wv ws.length wq)) (fun g hg => by
         have : g ≠ w.heap.size + 1 := by
           rintro rfl
           rcases R2.out.2.2 with ⟨e1, _⟩ | ⟨ga, ca, cua, ea, _, ha, _⟩
           · rw [e1] at hg; cases hg
           · rw [ea] at hg
             simp only [Value.ownBlock, Option.some.injEq] at hg
             subst hg
             rw [D2.out] at ha; simp at ha
         rw [heap_set _ _ _ _ _ this, heap_set _ _ _ _ _ this, heap_set _ _ _ _ _ this])
       obtain ⟨a9, c9, e9, r9⟩ := own_veRow h1
       simp only [Value.slice.injEq] at e9
       obtain ⟨rfl, _⟩ := e9
       exact r9))
end Go.Proofs.Ytoahbfledamnnaa.G
namespace Go.Proofs.Ytoahbfledamnnaa.G
open Go.ChangeShapes Go.WideShapes Go.ChangeAt Go.RowKit
set_option linter.unusedVariables false

/-- The flags of the keys that came. -/
def Came (cs : Array Value) (t : List Int) : Prop := cs.size = 16 ∧ ∀ j : Nat, j < 16 → cs[j]? = some (.bool (decide ((j : Int) ∈ t)))
theorem Came.put {cs : Array Value} {t : List Int} (h : Came cs t) {k : Nat} (hk : k < 16) : Came (cs.setIfInBounds k (.bool true)) (t ++ [(k : Int)]) := by
  refine ⟨by simp [h.1], fun j hj => ?_⟩
  by_cases e : j = k
  · subst e
    rw [Array.getElem?_setIfInBounds_self_of_lt (by rw [h.1]; omega)]; simp
  · rw [Array.getElem?_setIfInBounds_ne (by omega), h.2 j hj]
    simp; omega
set_option maxHeartbeats 4000000 in
theorem keys_once (a : Option Addr) (c : Nat) (rs : List Int) (w : World) (hr : NuRow 0 w.heap.size w a rs) (hl : rs.length ≤ 1048576) :
    Calls Try.prog 40 #[.slice a rs.length c] w fun e w' => e = .returned (.bool (readsB rs)) ∧ Below w.heap.size w w' := by
  have HR : Hid (∀ W0, Below w.heap.size w W0 → NuRow 0 W0.heap.size W0 a rs) := fun W0 hB => NuRow.up hr hB
  clear hr
  obtain ⟨cs0, hcs0⟩ : ∃ cs : Array Value, cs = #[.bool false, .bool false, .bool false, .bool false, .bool false, .bool false, .bool false, .bool false, .bool false, .bool false, .bool false, .bool false, .bool false, .bool false, .bool false, .bool false] := ⟨_, rfl⟩
  have HC0 : Hid (Came cs0 (rs.take 0)) := by
    refine ⟨by rw [hcs0]; rfl, fun j hj => ?_⟩
    rw [hcs0]
    have : j = 0 ∨ j = 1 ∨ j = 2 ∨ j = 3 ∨ j = 4 ∨ j = 5 ∨ j = 6 ∨ j = 7 ∨ j = 8 ∨ j = 9 ∨ j = 10 ∨ j = 11 ∨ j = 12 ∨ j = 13 ∨ j = 14 ∨ j = 15 := by omega
    rcases this with rfl | rfl | rfl | rfl | rfl | rfl | rfl | rfl | rfl | rfl | rfl | rfl | rfl | rfl | rfl | rfl <;> simp
  go_enter Try.func40, Try.ntmps40
  go_wp2_with fail
  rw [← hcs0]
  clear hcs0
  have B0 : Below w.heap.size w (w.alloc (.cells cs0 92)) := (Below.refl _ _).alloc (Nat.le_refl _) _
  have H0 : Hid ((w.alloc (.cells cs0 92)).heap[w.heap.size]? = some (.cells cs0 92 (0, 0))) := heap_alloc_new _ _
  go_loopw [8] (fun i w' => ∃ (k : Nat) (cs : Array Value), k ≤ rs.length ∧ i = .int .i64 k ∧ Hid (Below w.heap.size w w') ∧ Hid (w'.heap[w.heap.size]? = some (.cells cs 92 (0, 0))) ∧ Hid (Came cs (rs.take k)) ∧ Hid (∀ i, i < k → rdB rs i = true)) (fun i _ => rs.length - (intOf i).toNat)
  case atStart => exact ⟨0, cs0, by omega, rfl, B0, H0, HC0, fun i h => by omega⟩
  case round =>
    obtain ⟨wo, rfl⟩ : ∃ x, x = wr := ⟨_, rfl⟩
    obtain ⟨k, cs, hk, rfl, HB, HH, HC, HK⟩ := hrel
    clear B0 H0 HC0
    by_cases hlt : k < rs.length
    case neg =>
      have HN : Hid (true = readsB rs) := (readsB_true fun i hi => HK.out i (by omega)).symm
      go_wp2_with fail
      go_ret
      exact ⟨ret_b HN.out, HB.out⟩
    obtain ⟨b, o, ha, _, hbl, d0⟩ := NuRow.cells (HR.out _ HB.out) k hlt
    subst ha
    have HRB := rdB_eq hlt
    cases hA : keyS rs[k]
    · have HN : Hid (false = readsB rs) := (readsB_false hlt (by rw [HRB, show inS rs[k] 0 15 = false from by rw [inB_not]; intro hx; have := (keyB_iff rs[k]).2 ⟨by omega, by omega⟩; rw [hA] at this; cases this]; rfl)).symm
      clear HRB
      go_wp2_with (first | (go_at_call 28; refine (impl_isKey _ _).mono ?_; rintro e w' ⟨rfl, hw⟩; rw [hw, hA]))
      go_ret
      exact ⟨ret_b HN.out, HB.out⟩
    obtain ⟨g1, g2⟩ := (keyB_iff _).1 hA
    have HIN : Hid (inS rs[k] 0 15 = true) := (inS_iff _ _ _).2 ⟨by omega, by omega⟩
    obtain ⟨m, hm⟩ : ∃ m : Nat, rs[k] = m := ⟨rs[k].toNat, by omega⟩
    have HRB2 : Hid _ := HRB
    rw [hm] at d0 hA g1 g2 HIN HRB2
    have hm16 : m < 16 := by omega
    have cm := (row_cell HH.out m).trans (HC.out.2 m hm16)
    have HM : Hid _ := hm
    clear HRB hm
    cases hI : decide ((m : Int) ∈ rs.take k)
    · rw [hI] at cm
      have HO : Hid (rdB rs k = true) := by rw [Hid, HRB2.out, HIN.out, hI]; rfl
      have hf := row_frozen HH.out m
      have HC2 : Hid (Came (cs.setIfInBounds m (.bool true)) (rs.take (k + 1))) := by
        rw [Hid, List.take_succ_eq_append_getElem hlt, HM.out]; exact HC.out.put hm16
      have hbw : w.heap.size < wo.heap.size := (Array.getElem?_eq_some_iff.1 HH.out).1
      clear hI
      go_wp2_with (first | (go_at_call 28; refine (impl_isKey _ _).mono ?_; rintro e w' ⟨rfl, hw⟩; rw [hw, hA]))
      refine ⟨⟨k + 1, _, by omega, by go_num, HB.out.setCell (Nat.le_refl _) _, row_set HH.out _ _, HC2, ?_⟩, by simp [intOf]; omega⟩
      intro i hi
      by_cases e : i = k
      · subst e; exact HO.out
      · exact HK.out i (by omega)
    · have HN : Hid (false = readsB rs) := (readsB_false hlt (by rw [HRB2.out, HIN.out, hI]; rfl)).symm
      rw [hI] at cm
      clear hI
      go_wp2_with (first | (go_at_call 28; refine (impl_isKey _ _).mono ?_; rintro e w' ⟨rfl, hw⟩; rw [hw, hA]))
      go_ret
      exact ⟨ret_b HN.out, HB.out⟩
set_option maxHeartbeats 4000000 in
theorem impl_txnOK (a ra wa : Option Addr) (c rq wq : Nat) (l : Chs) (now st : Int) (rs : List Int) (ws : List Ve) (w : World) (hr : ChRow 0 w.heap.size w a l) (hbd : ChsBd 1048576 l) (ht : TxRow 0 w.heap.size w ra wa rs ws) (htb : TxBd 1048576 rs ws) :
    Calls Try.prog 17 #[.agg #[.slice a l.length c, .int .i64 now], .agg #[.int .i64 st, .slice ra rs.length rq, .slice wa ws.length wq]] w fun e w' => e = .returned (.bool (txnB l now st rs ws)) ∧ Below w.heap.size w w' := by
  obtain ⟨V, hV⟩ : ∃ V, V = (w.alloc (.cells #[.slice a l.length c, .int .i64 now] 25)).alloc (.cells #[.int .i64 st, .slice ra rs.length rq, .slice wa ws.length wq] 30) := ⟨_, rfl⟩
  have bV : Below w.heap.size w V := by
    rw [hV]
    repeat (first | exact Below.refl _ _ | refine Below.alloc ?_ (by first | omega | (simp <;> omega)) _)
  have zV : w.heap.size + 2 ≤ V.heap.size := by rw [hV]; simp
  have c0 : V.heap[w.heap.size]? = some (.cells #[.slice a l.length c, .int .i64 now] 25 (0, 0)) := by
    rw [hV, Below.heap_alloc _ _ _ (by simp)]; exact heap_alloc_new _ _
  have c1 : V.heap[w.heap.size + 1]? = some (.cells #[.int .i64 st, .slice ra rs.length rq, .slice wa ws.length wq] 30 (0, 0)) := by
    rw [hV]
    have := heap_alloc_new (w.alloc (.cells #[.slice a l.length c, .int .i64 now] 25)) (.cells #[.int .i64 st, .slice ra rs.length rq, .slice wa ws.length wq] 30)
    simpa using this
  have KV : Hid (∀ W, Below V.heap.size V W → W.heap[w.heap.size + 1]? = some (.cells #[.int .i64 st, .slice ra rs.length rq, .slice wa ws.length wq] 30 (0, 0)) ∧ Below w.heap.size w W ∧ ChRow 0 W.heap.size W a l ∧ TxRow 0 W.heap.size W ra wa rs ws) := fun W h =>
    have hw := bV.trans (h.mono (by omega))
    ⟨(h.block _ (by omega)).trans c1, hw, ChRow.up hr hw, TxRow.up ht hw⟩
  have x0 := fun o => row_cell c0 o
  have x1 := fun o => row_cell c1 o
  have HE : Hid _ := hbd
  have hl1 := htb.1
  have hl2 := htb.2
  clear hr hbd ht htb c0 c1 bV
  go_enter Try.func17, Try.ntmps17
  go_upto_region 1 with fail
  rw [← hV]
  clear hV
  by_cases hh : hourN l now st = 0
  case neg =>
    have HN : Hid (false = txnB l now st rs ws) := by
      unfold Hid
      symm
      rw [Bool.eq_false_iff]
      intro h
      obtain ⟨h1, h2, _, _⟩ := txnB_all h
      exact hh (by simp [hourN, h1, (inS_iff st 0 now).2 h2])
    have hh' : (hourN l now st == 0) = false := by simpa using hh
    clear hh
    go_wp2_with (first | (go_at_call 39; refine (impl_hourFault a c l now st _ (KV.out _ (Below.refl _ _)).2.2.1 HE.out).mono ?_; rintro e w1 ⟨rfl, b1⟩; have Q : Hid _ := (KV.out _ b1).2.1; clear b1; generalize hourN l now st = z at *) | fail)
    go_ret
    exact ⟨ret_b HN.out, Q.out⟩
  have HS : Hid (storeB l now = true ∧ inS st 0 now = true) := by
    unfold hourN at hh
    split at hh
    · split at hh
      · exact ⟨by assumption, by assumption⟩
      · cases hh
    · cases hh
  have HH : Hid _ := hh
  clear hh
  cases hK : readsB rs
  · have HN : Hid (false = txnB l now st rs ws) := by simp [Hid, txnB, txB, hK]
    have HK : Hid _ := hK
    clear hK
    go_wp2_with (first
      | (go_at_call 39; refine (impl_hourFault a c l now st _ (KV.out _ (Below.refl _ _)).2.2.1 HE.out).mono ?_; rintro e w1 ⟨rfl, b1⟩; rw [HH.out]; have y1 := fun o => row_cell (KV.out _ b1).1 o; have B1 : Hid _ := b1; clear b1)
      | (go_at_call 40; refine (keys_once ra rq rs _ (KV.out _ B1.out).2.2.2.1 hl1).mono ?_; rintro e w2 ⟨rfl, b2⟩; rw [HK.out]; have Q : Hid _ := (KV.out _ (B1.out.trans (b2.mono B1.out.size))).2.1; clear b2) | fail)
    go_ret
    exact ⟨ret_b HN.out, Q.out⟩
  have HN : Hid (putsB ws = txnB l now st rs ws) := by simp [Hid, txnB, txB, hK, HS.out.1, HS.out.2]
  have HK : Hid _ := hK
  clear hK
  go_wp2_with (first
      | (go_at_call 39; refine (impl_hourFault a c l now st _ (KV.out _ (Below.refl _ _)).2.2.1 HE.out).mono ?_; rintro e w1 ⟨rfl, b1⟩; rw [HH.out]; have y1 := fun o => row_cell (KV.out _ b1).1 o; have B1 : Hid _ := b1; clear b1)
      | (go_at_call 40; refine (keys_once ra rq rs _ (KV.out _ B1.out).2.2.2.1 hl1).mono ?_; rintro e w2 ⟨rfl, b2⟩; rw [HK.out]; have B2 : Hid _ := B1.out.trans (b2.mono B1.out.size); clear b2; clear y1; have y2 := fun o => row_cell (KV.out _ B2.out).1 o)
      | (go_at_call 24; refine (impl_putsOK wa wq ws _ (KV.out _ B2.out).2.2.2.2 hl2).mono ?_; rintro e w3 ⟨rfl, b3⟩; have Q : Hid _ := (KV.out _ (B2.out.trans (b3.mono B2.out.size))).2.1; clear b3) | fail)
  go_ret
  exact ⟨ret_b HN.out, Q.out⟩
end Go.Proofs.Ytoahbfledamnnaa.G
