/- The program's copyStore. -/
import Derived.Test.YtbpkjpoicelgcaaStWrSpecTwo
import Derived.Test.YtbpkjpoicelgcaaStPutsOK
import Derived.Test.YtbpkjpoicelgcaaStStoreMath
import Derived.Deep.CutBlock
import Derived.Deep.CutRange
import Derived.Test.YtbpkjpoicelgcaaStWrSpec
import Derived.BigQuiet
namespace Go.Proofs.Ytbpkjpoicelgcaa.G
open Go.ChangeShapes Go.WideShapes Go.ChangeAt Go.RowKit
set_option linter.unusedVariables false

set_option maxHeartbeats 1000000 in
theorem spec_write_nil2 (a pa : Option Addr) (m c pc : Nat) (now : Int) (w : World) :
    Calls Try.prog 46 #[.agg #[.slice a m c, .int .i64 now], .slice pa 0 pc] w fun e w' => e = .returned (.agg #[.slice a m c, .int .i64 now]) ∧ Below w.heap.size w w' := by
  go_enter Try.func46, Try.ntmps46
  go_wp2_with fail
  refine bodyPost_ret (v := .agg #[.slice a m c, .int .i64 now]) (by simp [results, Try.results46, go_sem]) rfl ⟨rfl, ?_⟩
  repeat (first | exact Below.refl _ _ | refine Below.setCell ?_ (by first | omega | (simp <;> omega)) _ | refine Below.alloc ?_ (by first | omega | (simp <;> omega)) _)
theorem OwnK.chRow2 {lo : Nat} {w : World} {v : Value} {l : Chs} (h : OwnK lo w v l) : ∃ a c, v = .slice a l.length c ∧ ChRow lo w.heap.size w a l := by
  obtain ⟨vs, h1, h2⟩ := h
  exact Kids.row h1 h2
/-- What a WriteAll answers: a store, an hour, a code. -/
def WaS (w : World) (m : Chs) (nr h cd : Int) (e : Ending) (w' : World) : Prop := ∃ a' c', e = .returned (.tuple #[.agg #[.slice a' m.length c', .int .i64 nr], .int .i64 h, .int .i64 cd]) ∧ ChRow w.heap.size w'.heap.size w' a' m ∧ Below w.heap.size w w'
/-- What l06Write makes, of something or of nothing. -/
theorem spec_write (a pa : Option Addr) (c pc : Nat) (l : Chs) (ps : List Ve) (now : Int) (w : World) (hr : ChRow 0 w.heap.size w a l) (hp : VeRow 0 w.heap.size w pa ps) (h2 : storeB l now = true) (h3 : putsB ps = true) {m : Chs} {nr : Int} (h : (ps.length = 0 ∧ m = l ∧ nr = now) ∨ (0 < ps.length ∧ m = wrAll (now + 1) l ps ∧ nr = now + 1)) :
    Calls Try.prog 46 #[.agg #[.slice a l.length c, .int .i64 now], .slice pa ps.length pc] w fun e w' => ∃ a2 c2, e = .returned (.agg #[.slice a2 m.length c2, .int .i64 nr]) ∧ ChRow 0 w'.heap.size w' a2 m ∧ Below w.heap.size w w' := by
  have hbd := storeB_bd h2
  obtain ⟨h16, hn0, hn1, _⟩ := storeB_all h2
  rcases h with ⟨h0, rfl, rfl⟩ | ⟨h0, rfl, rfl⟩
  · rw [h0]
    refine (spec_write_nil2 a pa m.length c pc nr w).mono ?_
    rintro e w' ⟨rfl, hb⟩
    exact ⟨a, c, rfl, ChRow.up hr hb, hb⟩
  · refine (spec_l06Write a pa c pc l ps now w hr hp ⟨by omega, fun x hx => by have := hbd x hx; omega⟩ h0 (by have := (putsB_all h3).1; omega) h16 (fun i hi => putB_key ((putsB_all h3).2 ps[i] (List.getElem_mem hi))) ⟨hn0, by omega⟩).mono ?_
    rintro e w' ⟨v, rfl, ho, hb⟩
    obtain ⟨a2, c2, rfl, r2⟩ := ho.chRow2
    exact ⟨a2, c2, rfl, ChRow.wide r2 (Nat.zero_le _) (Nat.le_refl _), hb⟩
end Go.Proofs.Ytbpkjpoicelgcaa.G
namespace Go.Proofs.Ytbpkjpoicelgcaa.G
open Go.ChangeShapes Go.WideShapes Go.ChangeAt Go.RowKit
set_option linter.unusedVariables false

/-- A store, an hour and a code that a call tells. -/
def CoS (w : World) (m : Chs) (nr h cd : Int) (e : Ending) (w' : World) : Prop := (∃ a' c', e = .returned (.tuple #[.agg #[.slice a' m.length c', .int .i64 nr], .int .i64 h, .int .i64 cd]) ∧ ChRow 0 w'.heap.size w' a' m) ∧ Below w.heap.size w w'
/-- Where the call's own store lies: what is below stays, and the rows with it. -/
theorem CoS.same {w W' : World} {a : Option Addr} {c : Nat} {l : Chs} {now h cd : Int} (hr : ChRow 0 w.heap.size w a l) (hb : Below w.heap.size w W') : CoS w l now h cd (.returned (.tuple #[.agg #[.slice a l.length c, .int .i64 now], .int .i64 h, .int .i64 cd])) W' := ⟨⟨a, c, rfl, ChRow.up hr hb⟩, hb⟩
set_option maxHeartbeats 8000000 in
theorem spec_co (a ra wa : Option Addr) (c rq wq : Nat) (l : Chs) (now st : Int) (rs : List Int) (ws : List Ve) (w : World) (hs : ChRow 0 w.heap.size w a l) (hsb : ChsBd 1048576 l) (hr : TxRow 0 w.heap.size w ra wa rs ws) (hbd : TxBd 1048576 rs ws) (hcap : rs.length ≤ rq) (hok : txnB l now st rs ws = true) {m : Chs} {nr h cd : Int} (hc : CoIs l now st rs ws m nr h cd) :
    Calls Try.prog 41 #[.agg #[.slice a l.length c, .int .i64 now], .agg #[.int .i64 st, .slice ra rs.length rq, .slice wa ws.length wq]] w fun e w' => CoS w m nr h cd e w' := by
  have hal := txnB_all hok
  have H16 : Hid (l.length = 16) := (storeB_all hal.1).1
  have HSO : Hid (storeB l now = true) := hal.1
  have HPO : Hid (putsB ws = true) := hal.2.2.1
  have HRO : Hid (readsB rs = true) := hal.2.2.2
  have HCO : Hid (CoIs l now st rs ws m nr h cd) := hc
  clear hal hok hc
  obtain ⟨V, hV⟩ : ∃ V, V = ((w.alloc (.cells #[.slice a l.length c, .int .i64 now] 25)).alloc (.cells #[.int .i64 st, .slice ra rs.length rq, .slice wa ws.length wq] 30)).alloc (.cells #[.slice none 0 0, .int .i64 0] 25) := ⟨_, rfl⟩
  have bV : Below w.heap.size w V := by
    rw [hV]
    repeat (first | exact Below.refl _ _ | refine Below.alloc ?_ (by first | omega | (simp <;> omega)) _)
  have zV : w.heap.size + 3 ≤ V.heap.size := by rw [hV]; simp
  have c0 : V.heap[w.heap.size]? = some (.cells #[.slice a l.length c, .int .i64 now] 25 (0, 0)) := by
    rw [hV, Below.heap_alloc _ _ _ (by simp <;> omega), Below.heap_alloc _ _ _ (by simp <;> omega)]; exact heap_alloc_new _ _
  have c1 : V.heap[w.heap.size + 1]? = some (.cells #[.int .i64 st, .slice ra rs.length rq, .slice wa ws.length wq] 30 (0, 0)) := by
    rw [hV, Below.heap_alloc _ _ _ (by simp <;> omega)]
    have := heap_alloc_new (w.alloc (.cells #[.slice a l.length c, .int .i64 now] 25)) (.cells #[.int .i64 st, .slice ra rs.length rq, .slice wa ws.length wq] 30)
    simpa using this
  have c2 : V.heap[w.heap.size + 1 + 1]? = some (.cells #[.slice none 0 0, .int .i64 0] 25 (0, 0)) := by
    rw [hV]
    have := heap_alloc_new ((w.alloc (.cells #[.slice a l.length c, .int .i64 now] 25)).alloc (.cells #[.int .i64 st, .slice ra rs.length rq, .slice wa ws.length wq] 30)) (.cells #[.slice none 0 0, .int .i64 0] 25)
    simpa using this
  have KV : Hid (∀ W, Below V.heap.size V W → W.heap[w.heap.size]? = some (.cells #[.slice a l.length c, .int .i64 now] 25 (0, 0)) ∧ W.heap[w.heap.size + 1]? = some (.cells #[.int .i64 st, .slice ra rs.length rq, .slice wa ws.length wq] 30 (0, 0)) ∧ W.heap[w.heap.size + 1 + 1]? = some (.cells #[.slice none 0 0, .int .i64 0] 25 (0, 0)) ∧ ChRow 0 W.heap.size W a l ∧ TxRow 0 W.heap.size W ra wa rs ws ∧ Below w.heap.size w W) := fun W h =>
    have hw := bV.trans (h.mono (by omega))
    ⟨(h.block _ (by omega)).trans c0, (h.block _ (by omega)).trans c1, (h.block _ (by omega)).trans c2, ChRow.up hs hw, TxRow.up hr hw, hw⟩
  have HE : Hid (ChsBd 1048576 l) := hsb
  have HD : Hid (TxBd 1048576 rs ws) := hbd
  have HW0 : Hid (TxRow 0 w.heap.size w ra wa rs ws) := hr
  have HS0 : Hid (ChRow 0 w.heap.size w a l) := hs
  have x0 := fun o => row_cell c0 o
  have x1 := fun o => row_cell c1 o
  have x2 := fun o => row_cell c2 o
  have y2 := fun o => row_frozen c2 o
  clear hs hr hbd hsb c0 c1 c2 bV
  go_enter Try.func41, Try.ntmps41
  go_upto_region 1 with fail
  rw [← hV]
  clear hV
  by_cases h0 : ws.length = 0
  · obtain ⟨_, rfl, rfl, rfl, rfl⟩ : ws.length = 0 ∧ m = l ∧ nr = now ∧ h = st ∧ cd = 0 := by
      rcases HCO.out with h | ⟨h, _⟩ | ⟨h, _⟩ | ⟨h, _⟩
      · exact h
      all_goals omega
    have h0' : ((ws.length : Int) == 0) = true := by rw [h0]; rfl
    clear h0 HCO HPO
    go_upto_region 2 with fail
    go_region_with fail
    all_goals (try go_wp2_with fail)
    all_goals
      refine bodyPost_ret (v := .tuple #[.agg #[.slice a m.length c, .int .i64 nr], .int .i64 h, .int .i64 0]) (by simp [results, Try.results41, go_sem, x2]) rfl (CoS.same HS0.out ?_)
      refine Below.drew ?_
      repeat (refine Below.setCell ?_ (by first | omega | (simp <;> omega)) _)
      exact (KV.out _ (Below.refl _ _)).2.2.2.2.2
  have h0' : ((ws.length : Int) == 0) = false := by simp; intro e; rw [e] at h0; exact h0 rfl
  have hp0 : 0 < ws.length := by omega
  clear h0
  go_wp2_with fail
  refine (spec_conf a ra wa c rq wq l now st rs ws _ (KV.out _ (Below.refl _ _)).2.2.2.1 HE.out (KV.out _ (Below.refl _ _)).2.2.2.2.1 HD.out hcap H16.out HRO.out).mono ?_
  rintro e w1 ⟨rfl, hb1⟩
  have q1 : Hid (Below V.heap.size V w1) := hb1
  obtain ⟨t0, t1, t2, t3, t4, t5⟩ := KV.out _ q1.out
  have xa1 := fun o => row_cell t0 o
  have xb1 := fun o => row_cell t1 o
  have xc1 := fun o => row_cell t2 o
  have yc1 := fun o => row_frozen t2 o
  have TS1 : Hid (ChRow 0 w1.heap.size w1 a l) := t3
  have TT1 : Hid (TxRow 0 w1.heap.size w1 ra wa rs ws) := t4
  have TB1 : Hid (Below w.heap.size w w1) := t5
  have z1 := hb1.size
  clear t0 t1 t2 t3 t4 t5 hb1
  clear x0 x1 x2 y2
  cases hC : confB l st rs ws
  case true =>
    obtain ⟨_, _, rfl, rfl, rfl, rfl⟩ : 0 < ws.length ∧ confB l st rs ws = true ∧ m = l ∧ nr = now ∧ h = 0 ∧ cd = 16 := by
      rcases HCO.out with ⟨h, _⟩ | h | ⟨_, h, _⟩ | ⟨_, h, _⟩
      · omega
      · exact h
      all_goals rw [hC] at h; cases h
    clear HCO hC
    go_wp2_with fail
    refine bodyPost_ret (v := .tuple #[.agg #[.slice a m.length c, .int .i64 nr], .int .i64 0, .int .i64 16]) (by simp [results, Try.results41, go_sem, xc1]) rfl (CoS.same HS0.out ?_)
    repeat (refine Below.setCell ?_ (by first | omega | (simp <;> omega)) _)
    exact TB1.out
  by_cases h1 : now = 100000
  · obtain ⟨_, _, _, rfl, rfl, rfl, rfl⟩ : 0 < ws.length ∧ confB l st rs ws = false ∧ now = 100000 ∧ m = l ∧ nr = now ∧ h = 0 ∧ cd = 7 := by
      rcases HCO.out with ⟨h, _⟩ | ⟨_, h, _⟩ | h | ⟨_, _, h, _⟩
      · omega
      · rw [hC] at h; cases h
      · exact h
      · exact absurd h1 h
    have h1' : (nr == 100000) = true := by simpa using h1
    have HN1 : Hid (nr = 100000) := h1
    clear HCO hC h1
    go_wp2_with fail
    refine bodyPost_ret (v := .tuple #[.agg #[.slice a m.length c, .int .i64 nr], .int .i64 0, .int .i64 7]) (by first | (simp [results, Try.results41, go_sem, xc1]; done) | (simp [results, Try.results41, go_sem, xc1]; exact HN1.out.symm)) rfl (CoS.same HS0.out ?_)
    repeat (refine Below.setCell ?_ (by first | omega | (simp <;> omega)) _)
    exact TB1.out
  · obtain ⟨_, _, _, hm, hnr, hh, hcd⟩ : 0 < ws.length ∧ confB l st rs ws = false ∧ now ≠ 100000 ∧ m = wrAll (now + 1) l ws ∧ nr = now + 1 ∧ h = now + 1 ∧ cd = 0 := by
      rcases HCO.out with ⟨h, _⟩ | ⟨_, h, _⟩ | ⟨_, _, h, _⟩ | h
      · omega
      · rw [hC] at h; cases h
      · exact absurd h h1
      · exact h
    have h1' : (now == 100000) = false := by simpa using h1
    have HM : Hid (m = wrAll (now + 1) l ws) := hm
    have HNR : Hid (nr = now + 1) := hnr
    have HCD : Hid (h = nr ∧ cd = 0) := ⟨by omega, hcd⟩
    clear HCO hC h1 hm hnr hh hcd
    go_wp2_with fail
    have hbw := storeB_bd HSO.out
    have hnw := (storeB_all HSO.out).2.2.1
    have hnz := (storeB_all HSO.out).2.1
    have hqw := spec_l06Write a wa c wq l ws now _ TS1.out TT1.out.2 ⟨by have := H16.out; omega, fun x hx => by have := hbw x hx; omega⟩ hp0 (by have := (putsB_all HPO.out).1; omega) H16.out (fun i hi => putB_key ((putsB_all HPO.out).2 ws[i] (List.getElem_mem hi))) ⟨hnz, by omega⟩
    rw [← HM.out, ← HNR.out] at hqw
    refine hqw.mono ?_
    clear hqw hbw hnw hnz
    rintro e w2 ⟨v2, rfl, o2, hb2⟩
    obtain ⟨a2, c2, rfl, r2⟩ := o2.chRow2
    have R2 : Hid (ChRow w1.heap.size w2.heap.size w2 a2 m) := r2
    clear r2 o2
    have q2 : Hid (Below V.heap.size V w2) := q1.out.trans (hb2.mono (by omega))
    obtain ⟨t0, t1, t2, t3, t4, t5⟩ := KV.out _ q2.out
    have xa2 := fun o => row_cell t0 o
    have xb2 := fun o => row_cell t1 o
    have xc2 := fun o => row_cell t2 o
    have yc2 := fun o => row_frozen t2 o
    have TS2 : Hid (ChRow 0 w2.heap.size w2 a l) := t3
    have TT2 : Hid (TxRow 0 w2.heap.size w2 ra wa rs ws) := t4
    have TB2 : Hid (Below w.heap.size w w2) := t5
    have z2 := hb2.size
    clear t0 t1 t2 t3 t4 t5 hb2
    clear xa1 xb1 xc1 yc1
    go_upto_region 8 with fail
    obtain ⟨U, hU⟩ : ∃ x, x = w2.alloc (.cells #[.slice a2 m.length c2, .int .i64 nr] 25) := ⟨_, rfl⟩
    rw [← hU]
    have bU : Below w2.heap.size w2 U := by rw [hU]; exact (Below.refl _ _).alloc (Nat.le_refl _) _
    have cU : U.heap[w2.heap.size]? = some (.cells #[.slice a2 m.length c2, .int .i64 nr] 25 (0, 0)) := by rw [hU]; exact heap_alloc_new _ _
    have xU := fun o => row_cell cU o
    have zU := bU.size
    have qU : Hid (Below V.heap.size V U) := q2.out.trans (bU.mono (by omega))
    have tU := KV.out _ qU.out
    have rU := fun o => row_cell tU.2.2.1 o
    have yU := fun o => row_frozen tU.2.2.1 o
    have BU : Hid (Below w.heap.size w U) := tU.2.2.2.2.2
    have R2U : Hid (ChRow w1.heap.size w2.heap.size U a2 m) := ChRow.keep R2.out (agree bU (Nat.le_refl _))
    clear hU bU cU tU xa2 xb2 xc2 yc2
    have z1v := q1.out.size
    go_region_with fail
    all_goals (try go_wp2_with fail)
    all_goals
      refine bodyPost_ret (v := .tuple #[.agg #[.slice a2 m.length c2, .int .i64 nr], .int .i64 nr, .int .i64 0]) (by simp [results, Try.results41, go_sem, rU]) rfl ⟨⟨a2, c2, by rw [HCD.out.1, HCD.out.2], ?_⟩, ?_⟩
      · refine ChRow.wide (ChRow.keep R2U.out (fun k h1 h2 => ?_)) (Nat.zero_le _) (by show w2.heap.size ≤ ((U.setCell _ _).setCell _ _).heap.size; simp; omega)
        show ((U.setCell ⟨w.heap.size + 1 + 1, 0, none⟩ _).setCell ⟨w.heap.size + 1 + 1, 1, none⟩ _).heap[k]? = _
        rw [heap_set _ _ _ _ _ (by omega), heap_set _ _ _ _ _ (by omega)]
      · refine Below.drew ?_
        repeat (refine Below.setCell ?_ (by first | omega | (simp <;> omega)) _)
        exact BU.out
/-- What Commit answers: a store, an hour, a code. -/
def CtIs (l : Chs) (now st : Int) (rs : List Int) (ws : List Ve) (m : Chs) (nr h cd : Int) : Prop :=
  (txnB l now st rs ws = false ∧ m = [] ∧ nr = 0 ∧ h = 0 ∧ cd = 1) ∨ (txnB l now st rs ws = true ∧ CoIs l now st rs ws m nr h cd)
theorem CoIs.bd {l : Chs} {now st : Int} {rs : List Int} {ws : List Ve} {m : Chs} {nr h cd : Int} (hok : txnB l now st rs ws = true) (hc : CoIs l now st rs ws m nr h cd) : ChsBd 100400 m ∧ m.length = 16 := by
  have hal := txnB_all hok
  have hbd := storeB_bd hal.1
  have h16 := (storeB_all hal.1).1
  have hn := (storeB_all hal.1).2.2.1
  have h400 := (putsB_all hal.2.2.1).1
  have hl : ChsBd 100400 l ∧ l.length = 16 := ⟨⟨by omega, fun x hx => by have := hbd x hx; omega⟩, h16⟩
  rcases hc with ⟨_, rfl, _⟩ | ⟨_, _, rfl, _⟩ | ⟨_, _, _, rfl, _⟩ | ⟨_, _, _, rfl, _⟩
  · exact hl
  · exact hl
  · exact hl
  · refine ⟨⟨by rw [wrAll_len]; omega, fun x hx => ?_⟩, by rw [wrAll_len]; exact h16⟩
    have := wrAll_bd (t := now + 1) ws (l := l) (m := 100000) (fun y hy => by have := hbd y hy; omega) x hx
    omega
theorem ctIs (l : Chs) (now st : Int) (rs : List Int) (ws : List Ve) : ∃ m nr h cd, CtIs l now st rs ws m nr h cd ∧ ChsBd 1048576 m ∧ sizeN m ≤ 16777216 := by
  cases hT : txnB l now st rs ws
  · exact ⟨_, _, _, _, .inl ⟨hT, rfl, rfl, rfl, rfl⟩, ⟨Nat.zero_le _, by simp⟩, by simp [sizeN]⟩
  have fin : ∀ {m : Chs} {nr h cd : Int}, CoIs l now st rs ws m nr h cd → ∃ m nr h cd, CtIs l now st rs ws m nr h cd ∧ ChsBd 1048576 m ∧ sizeN m ≤ 16777216 := fun {m nr h cd} hc => by
    have hb := CoIs.bd hT hc
    refine ⟨m, nr, h, cd, .inr ⟨hT, hc⟩, ⟨by have := hb.1.1; omega, fun x hx => by have := hb.1.2 x hx; omega⟩, ?_⟩
    have := sizeN_le (l := m) (fun x hx => by have := hb.1.2 x hx; omega)
    have := hb.2
    omega
  by_cases h0 : ws.length = 0
  · exact fin (.inl ⟨h0, rfl, rfl, rfl, rfl⟩)
  cases hC : confB l st rs ws
  · by_cases h1 : now = 100000
    · exact fin (.inr (.inr (.inl ⟨by omega, hC, h1, rfl, rfl, rfl, rfl⟩)))
    · exact fin (.inr (.inr (.inr ⟨by omega, hC, h1, rfl, rfl, rfl, rfl⟩)))
  · exact fin (.inr (.inl ⟨by omega, hC, rfl, rfl, rfl, rfl⟩))
set_option maxHeartbeats 4000000 in
theorem spec_ct (a ra wa : Option Addr) (c rq wq : Nat) (l : Chs) (now st : Int) (rs : List Int) (ws : List Ve) (w : World) (hs : ChRow 0 w.heap.size w a l) (hsb : ChsBd 1048576 l) (hr : TxRow 0 w.heap.size w ra wa rs ws) (hbd : TxBd 1048576 rs ws) (hcap : rs.length ≤ rq) {m : Chs} {nr h cd : Int} (hc : CtIs l now st rs ws m nr h cd) :
    Calls Try.prog 19 #[.agg #[.slice a l.length c, .int .i64 now], .agg #[.int .i64 st, .slice ra rs.length rq, .slice wa ws.length wq]] w fun e w' => (∃ v, e = .returned (.tuple #[.agg #[v, .int .i64 nr], .int .i64 h, .int .i64 cd]) ∧ OwnK w.heap.size w' v m) ∧ Below w.heap.size w w' := by
  have HCO : Hid (CtIs l now st rs ws m nr h cd) := hc
  clear hc
  obtain ⟨V, hV⟩ : ∃ V, V = ((w.alloc (.cells #[.slice a l.length c, .int .i64 now] 25)).alloc (.cells #[.int .i64 st, .slice ra rs.length rq, .slice wa ws.length wq] 30)).alloc (.cells #[.slice none 0 0, .int .i64 0] 25) := ⟨_, rfl⟩
  have bV : Below w.heap.size w V := by
    rw [hV]
    repeat (first | exact Below.refl _ _ | refine Below.alloc ?_ (by first | omega | (simp <;> omega)) _)
  have zV : w.heap.size + 3 ≤ V.heap.size := by rw [hV]; simp
  have c0 : V.heap[w.heap.size]? = some (.cells #[.slice a l.length c, .int .i64 now] 25 (0, 0)) := by
    rw [hV, Below.heap_alloc _ _ _ (by simp <;> omega), Below.heap_alloc _ _ _ (by simp <;> omega)]; exact heap_alloc_new _ _
  have c1 : V.heap[w.heap.size + 1]? = some (.cells #[.int .i64 st, .slice ra rs.length rq, .slice wa ws.length wq] 30 (0, 0)) := by
    rw [hV, Below.heap_alloc _ _ _ (by simp <;> omega)]
    have := heap_alloc_new (w.alloc (.cells #[.slice a l.length c, .int .i64 now] 25)) (.cells #[.int .i64 st, .slice ra rs.length rq, .slice wa ws.length wq] 30)
    simpa using this
  have c2 : V.heap[w.heap.size + 1 + 1]? = some (.cells #[.slice none 0 0, .int .i64 0] 25 (0, 0)) := by
    rw [hV]
    have := heap_alloc_new ((w.alloc (.cells #[.slice a l.length c, .int .i64 now] 25)).alloc (.cells #[.int .i64 st, .slice ra rs.length rq, .slice wa ws.length wq] 30)) (.cells #[.slice none 0 0, .int .i64 0] 25)
    simpa using this
  have KV : Hid (∀ W, Below V.heap.size V W → W.heap[w.heap.size]? = some (.cells #[.slice a l.length c, .int .i64 now] 25 (0, 0)) ∧ W.heap[w.heap.size + 1]? = some (.cells #[.int .i64 st, .slice ra rs.length rq, .slice wa ws.length wq] 30 (0, 0)) ∧ W.heap[w.heap.size + 1 + 1]? = some (.cells #[.slice none 0 0, .int .i64 0] 25 (0, 0)) ∧ ChRow 0 W.heap.size W a l ∧ TxRow 0 W.heap.size W ra wa rs ws ∧ Below w.heap.size w W) := fun W h =>
    have hw := bV.trans (h.mono (by omega))
    ⟨(h.block _ (by omega)).trans c0, (h.block _ (by omega)).trans c1, (h.block _ (by omega)).trans c2, ChRow.up hs hw, TxRow.up hr hw, hw⟩
  have HE : Hid (ChsBd 1048576 l) := hsb
  have HD : Hid (TxBd 1048576 rs ws) := hbd
  have HW0 : Hid (TxRow 0 w.heap.size w ra wa rs ws) := hr
  have HS0 : Hid (ChRow 0 w.heap.size w a l) := hs
  have x0 := fun o => row_cell c0 o
  have x1 := fun o => row_cell c1 o
  have x2 := fun o => row_cell c2 o
  have y2 := fun o => row_frozen c2 o
  clear hs hr hbd hsb c0 c1 c2 bV
  go_enter Try.func19, Try.ntmps19
  go_upto_region 1 with fail
  rw [← hV]
  clear hV
  go_wp2_with fail
  refine (spec_txnOK a ra wa c rq wq l now st rs ws _ (KV.out _ (Below.refl _ _)).2.2.2.1 HE.out (KV.out _ (Below.refl _ _)).2.2.2.2.1 HD.out hcap).mono ?_
  rintro e w1 ⟨rfl, hb1⟩
  have q1 : Hid (Below V.heap.size V w1) := hb1
  obtain ⟨t0, t1, t2, t3, t4, t5⟩ := KV.out _ q1.out
  have xa1 := fun o => row_cell t0 o
  have xb1 := fun o => row_cell t1 o
  have xc1 := fun o => row_cell t2 o
  have yc1 := fun o => row_frozen t2 o
  have TS1 : Hid (ChRow 0 w1.heap.size w1 a l) := t3
  have TT1 : Hid (TxRow 0 w1.heap.size w1 ra wa rs ws) := t4
  have TB1 : Hid (Below w.heap.size w w1) := t5
  have z1 := hb1.size
  clear t0 t1 t2 t3 t4 t5 hb1
  clear x0 x1 x2 y2
  cases hS : txnB l now st rs ws
  · obtain ⟨_, rfl, rfl, rfl, rfl⟩ : txnB l now st rs ws = false ∧ m = [] ∧ nr = 0 ∧ h = 0 ∧ cd = 1 := by
      rcases HCO.out with h | ⟨h, _⟩
      · exact h
      · rw [hS] at h; cases h
    clear HCO hS
    go_wp2_with fail
    refine bodyPost_ret (v := .tuple #[.agg #[.slice none 0 0, .int .i64 0], .int .i64 0, .int .i64 1]) (by simp [results, Try.results19, go_sem, xc1]) rfl ⟨⟨_, rfl, [], ⟨rfl, .inl ⟨rfl, rfl⟩⟩, fun i x hx => by simp at hx⟩, ?_⟩
    repeat (refine Below.setCell ?_ (by first | omega | (simp <;> omega)) _)
    exact TB1.out
  · have hco : CoIs l now st rs ws m nr h cd := by
      rcases HCO.out with ⟨h, _⟩ | ⟨_, h⟩
      · rw [hS] at h; cases h
      · exact h
    have hbm := CoIs.bd hS hco
    have HBM : Hid (ChsBd 1048576 m) := ⟨by have := hbm.1.1; omega, fun x hx => by have := hbm.1.2 x hx; omega⟩
    have HS : Hid (txnB l now st rs ws = true) := hS
    have HC : Hid (CoIs l now st rs ws m nr h cd) := hco
    clear hco hS HCO hbm
    go_wp2_with fail
    refine (spec_co a ra wa c rq wq l now st rs ws _ TS1.out HE.out TT1.out HD.out hcap HS.out HC.out).mono ?_
    rintro e w2 ⟨⟨a2, c2, rfl, r2⟩, hb2⟩
    have R2 : Hid (ChRow 0 w2.heap.size w2 a2 m) := r2
    clear r2
    have q2 : Hid (Below V.heap.size V w2) := q1.out.trans (hb2.mono (by omega))
    obtain ⟨t0, t1, t2, t3, t4, t5⟩ := KV.out _ q2.out
    have xa2 := fun o => row_cell t0 o
    have xb2 := fun o => row_cell t1 o
    have xc2 := fun o => row_cell t2 o
    have yc2 := fun o => row_frozen t2 o
    have TS2 : Hid (ChRow 0 w2.heap.size w2 a l) := t3
    have TT2 : Hid (TxRow 0 w2.heap.size w2 ra wa rs ws) := t4
    have TB2 : Hid (Below w.heap.size w w2) := t5
    have z2 := hb2.size
    clear t0 t1 t2 t3 t4 t5 hb2
    clear xa1 xb1 xc1 yc1
    go_wp2_with fail
    obtain ⟨U, hU⟩ : ∃ x, x = w2.alloc (.cells #[.slice a2 m.length c2, .int .i64 nr] 25) := ⟨_, rfl⟩
    rw [← hU]
    have bU : Below w2.heap.size w2 U := by rw [hU]; exact (Below.refl _ _).alloc (Nat.le_refl _) _
    have zU := bU.size
    have qU : Hid (Below V.heap.size V U) := q2.out.trans (bU.mono (by omega))
    have R2U : Hid (ChRow 0 U.heap.size U a2 m) := ChRow.up R2.out bU
    clear hU bU
    refine (spec_l06Own a2 c2 m nr _ R2U.out HBM.out).mono ?_
    rintro e w3 ⟨v3, rfl, o3, hb3⟩
    obtain ⟨a3, c3, rfl, r3⟩ := o3.chRow2
    have R3 : Hid (OwnK U.heap.size w3 (.slice a3 m.length c3) m) := o3
    clear r3 o3
    have q3 : Hid (Below V.heap.size V w3) := qU.out.trans (hb3.mono (by have := qU.out.size; omega))
    obtain ⟨t0, t1, t2, t3, t4, t5⟩ := KV.out _ q3.out
    have xa3 := fun o => row_cell t0 o
    have xb3 := fun o => row_cell t1 o
    have xc3 := fun o => row_cell t2 o
    have yc3 := fun o => row_frozen t2 o
    have TS3 : Hid (ChRow 0 w3.heap.size w3 a l) := t3
    have TT3 : Hid (TxRow 0 w3.heap.size w3 ra wa rs ws) := t4
    have TB3 : Hid (Below w.heap.size w w3) := t5
    have z3 := hb3.size
    clear t0 t1 t2 t3 t4 t5 hb3
    clear xa2 xb2 xc2 yc2
    have z1v := qU.out.size
    go_wp2_with fail
    refine bodyPost_ret (v := .tuple #[.agg #[.slice a3 m.length c3, .int .i64 nr], .int .i64 h, .int .i64 cd]) (by simp [results, Try.results19, go_sem, xc3]) rfl ⟨⟨_, rfl, ?_⟩, ?_⟩
    · have mv : ∀ {W' : World}, W'.heap.size = w3.heap.size → (∀ k, U.heap.size ≤ k → W'.heap[k]? = w3.heap[k]?) → OwnK w.heap.size W' (.slice a3 m.length c3) m := fun {W'} hs hk => by
        obtain ⟨vs, h1, h2⟩ := OwnK.move R3.out (w' := W') (by omega) hk
        exact ⟨vs, own_low h1 (by omega), h2.low (by omega)⟩
      refine mv (by simp) (fun k hk => ?_)
      repeat rw [heap_set _ _ _ _ _ (by omega)]
    · repeat (refine Below.setCell ?_ (by first | omega | (simp <;> omega)) _)
      exact TB3.out
end Go.Proofs.Ytbpkjpoicelgcaa.G
namespace Go.Proofs.Ytbpkjpoicelgcaa.G
open Go.ChangeShapes Go.WideShapes Go.ChangeAt Go.RowKit
set_option linter.unusedVariables false

theorem own_low2 {w : World} {base base' size n : Nat} {e : TypeId} {v : Value} {xs : List Value} (h : w.ownsRow base e size v n xs) (hb : base' ≤ base) : w.ownsRow base' e size v n xs := own_low h hb
theorem own_lt2 {w : World} {base size n : Nat} {e : TypeId} {v : Value} {xs : List Value} (h : w.ownsRow base e size v n xs) (g : Nat) (hg : v.ownBlock = some g) : g < w.heap.size := by
  rcases h.2 with ⟨e, _⟩ | ⟨g', cap, cur, e, h1, h2, _⟩
  · subst e; cases hg
  · subst e
    simp only [Value.ownBlock, Option.some.injEq] at hg
    subst hg
    exact (Array.getElem?_eq_some_iff.1 h2).1
theorem ownVe {w : World} {N g cap : Nat} {cur : Array Value} {l : List Ve} (hg : N ≤ g) (hh : w.heap[g]? = some (.cells cur 61 (0, 0))) (hc : l.length ≤ cap) (hm : cap ≤ maxLen) (hs : cur.size = cap * 2) (ht : cur.toList.take (l.length * 2) = veCells l) :
    w.ownsRow N 61 2 (.slice (some ⟨g, 0, none⟩) l.length cap) l.length (veCells l) :=
  ⟨veCells_len l, .inr ⟨g, cap, cur, rfl, hg, hh, hc, hm, hs, ht⟩⟩
set_option maxHeartbeats 2000000 in
theorem copy_own (a : Option Addr) (c : Nat) (l : List Ve) (w : World) (hr : VeRow 0 w.heap.size w a l) (hl : l.length ≤ 1048576) :
    Calls Try.prog 51 #[.slice a l.length c] w fun e w' => e = .returned (.slice (some ⟨w.heap.size, 0, none⟩) l.length l.length) ∧ w'.ownsRow w.heap.size 61 2 (.slice (some ⟨w.heap.size, 0, none⟩) l.length l.length) l.length (veCells l) ∧ Below w.heap.size w w' := by
  obtain ⟨i27, hi, hz, hsz, hby⟩ := info_Ve
  have hmk := run_make (P := Try.prog) w 58 61 i27 _ Try.underlying58 hi hz .i64 .i64 (l.length : Int) (l.length : Int) (by omega) (by omega) (by rw [hby]; omega) (by omega)
  rw [hsz, Int.toNat_natCast] at hmk
  clear hi hz hsz hby
  have hs0 := size_madeCells (Value.agg #[.int .i64 0, .int .i64 0]).cells (l.length * 2)
  generalize madeCells (Value.agg #[.int .i64 0, .int .i64 0]).cells (l.length * 2) = cs0 at *
  obtain ⟨V, hV⟩ : ∃ V, V = w.alloc (.cells cs0 61) := ⟨_, rfl⟩
  have bV : Below w.heap.size w V := by rw [hV]; exact (Below.refl _ _).alloc (Nat.le_refl _) _
  have cV : V.heap[w.heap.size]? = some (.cells cs0 61 (0, 0)) := by rw [hV]; exact heap_alloc_new _ _
  have hlm : l.length ≤ maxLen := by unfold maxLen; omega
  have hrun : ∃ W, (Builtin.copy_ #[58, 58] 3 #[.slice (some ⟨w.heap.size, 0, none⟩) l.length l.length, .slice a l.length c]).run Try.prog V = .ok (goInt l.length) W ∧ W.ownsRow w.heap.size 61 2 (.slice (some ⟨w.heap.size, 0, none⟩) l.length l.length) l.length (veCells l) ∧ Below w.heap.size w W := by
    by_cases h0 : l = []
    · subst h0
      exact ⟨V, run_copy_two0 V _ _ _ _ 0 0 _ _ _ _ Try.underlying58 infoS_Ve, ownVe (l := []) (Nat.le_refl _) cV (Nat.le_refl _) hlm (by simpa using hs0) (by simp [veCells]), bV⟩
    · rcases hr with h | ⟨b, o, rfl, _, hb, hx⟩
      · exact absurd h h0
      have hsrc := veCells_src (w := V) (b := b) (o := o) (l := l) (fun i x h => by
        have := hx i x h
        have e : rdOf V b = rdOf w b := (agree bV (Nat.le_refl _)).rd (Nat.zero_le _) hb
        rw [e]; exact this)
      have hlen := veCells_len l
      refine ⟨_, run_copy_two V _ _ _ _ w.heap.size 0 _ _ _ _ _ l.length cs0 _ (veCells l) Try.underlying58 infoS_Ve cV (Nat.min_self _) hlen hsrc (by omega) (veCells_one l), ?_, below_setRow bV (Nat.le_refl _) _⟩
      have hlist : (List.take 0 cs0.toList ++ veCells l ++ List.drop (0 + (veCells l).length) cs0.toList) = veCells l := by
        rw [List.drop_eq_nil_of_le (by simp; omega)]; simp
      rw [hlist]
      exact ownVe (Nat.le_refl _) (setRow_heap V w.heap.size cs0 _ _ _ cV) (Nat.le_refl _) hlm (by simp [hlen]) (by simp [← hlen])
  obtain ⟨W, hW, vW, bW⟩ := hrun
  have HV : Hid (W.ownsRow w.heap.size 61 2 (.slice (some ⟨w.heap.size, 0, none⟩) l.length l.length) l.length (veCells l) ∧ Below w.heap.size w W) := ⟨vW, bW⟩
  rw [hV] at hW
  clear hr vW bW bV cV hs0 hV
  go_enter Try.func51, Try.ntmps51
  go_wp2_with fail
  go_ret
  exact ⟨rfl, HV.out.1, HV.out.2⟩
/-- The first k chains of a store are laid, each in a block of its own behind N that may grow. -/
def PLaid (N : Nat) (w : World) (cs : Array Value) (l : Chs) (k : Nat) (bs : Nat → Nat) : Prop :=
  (∀ i x, i < k → l[i]? = some x → ∃ c, cs[i]? = some (.slice (some ⟨bs i, 0, none⟩) x.length c) ∧ N < bs i ∧ bs i < w.heap.size ∧ w.ownsRow N 61 2 (.slice (some ⟨bs i, 0, none⟩) x.length c) x.length (veCells x)) ∧ (∀ i j, i < k → j < k → i ≠ j → bs i ≠ bs j)
theorem PLaid.keep {N : Nat} {w w' : World} {cs : Array Value} {l : Chs} {k : Nat} {bs : Nat → Nat} (h : PLaid N w cs l k bs) (hs : w.heap.size ≤ w'.heap.size) (hk : Agree (N + 1) w.heap.size w w') : PLaid N w' cs l k bs := by
  refine ⟨fun i x hi hx => ?_, h.2⟩
  obtain ⟨c, h1, h3, h4, h5⟩ := h.1 i x hi hx
  refine ⟨c, h1, h3, by omega, own_set h5 (fun g hg => ?_)⟩
  simp only [Value.ownBlock, Option.some.injEq] at hg
  subst hg
  exact hk _ (by omega) h4
theorem PLaid.put {N : Nat} {w : World} {cs : Array Value} {l : Chs} {k : Nat} {bs : Nat → Nat} {g c : Nat} (h : PLaid N w cs l k bs) (hk : k < l.length) (hs : l.length ≤ cs.size) (hg1 : N < g) (hg2 : g < w.heap.size) (hv : w.ownsRow N 61 2 (.slice (some ⟨g, 0, none⟩) l[k].length c) l[k].length (veCells l[k])) (hn : ∀ i, i < k → bs i ≠ g) :
    PLaid N w (cs.setIfInBounds k (.slice (some ⟨g, 0, none⟩) l[k].length c)) l (k + 1) (bput bs k g) := by
  refine ⟨fun i x hi hx => ?_, fun i j hi hj hij => ?_⟩
  · by_cases hik : i = k
    · subst hik
      rw [List.getElem?_eq_getElem hk] at hx
      simp only [Option.some.injEq] at hx
      subst hx
      rw [bput_at]
      exact ⟨c, by simp [Array.getElem?_setIfInBounds]; omega, hg1, hg2, hv⟩
    · obtain ⟨c', h1, h3, h4, h5⟩ := h.1 i x (by omega) hx
      rw [bput_ne _ _ _ hik]
      exact ⟨c', by rw [Array.getElem?_setIfInBounds_ne (by omega)]; exact h1, h3, h4, h5⟩
  · by_cases hik : i = k
    · subst hik; rw [bput_at, bput_ne _ _ _ (by omega)]; exact (hn j (by omega)).symm
    · by_cases hjk : j = k
      · subst hjk; rw [bput_ne _ _ _ hik, bput_at]; exact hn i (by omega)
      · rw [bput_ne _ _ _ hik, bput_ne _ _ _ hjk]; exact h.2 i j (by omega) (by omega) hij
/-- A store's chains that a call writes: the row in block g, each chain in a block of its own that may grow. -/
def StP (lo : Nat) (w : World) (g : Nat) (l : Chs) (bs : Nat → Nat) : Prop :=
  ∃ cur, w.heap[g]? = some (.cells cur 58 (0, 0)) ∧ lo ≤ g ∧ l.length ≤ cur.size ∧
    (∀ i x, l[i]? = some x → ∃ c, cur[i]? = some (.slice (some ⟨bs i, 0, none⟩) x.length c) ∧ lo ≤ bs i ∧ bs i ≠ g ∧ bs i < w.heap.size ∧ w.ownsRow lo 61 2 (.slice (some ⟨bs i, 0, none⟩) x.length c) x.length (veCells x)) ∧
    (∀ i j, i < l.length → j < l.length → i ≠ j → bs i ≠ bs j)
theorem StP.of_laid {N : Nat} {w : World} {cs : Array Value} {l : Chs} {bs : Nat → Nat} (h : PLaid N w cs l l.length bs) (hh : w.heap[N]? = some (.cells cs 58 (0, 0))) (hs : l.length ≤ cs.size) : StP N w N l bs := by
  refine ⟨cs, hh, Nat.le_refl _, hs, fun i x hx => ?_, h.2⟩
  obtain ⟨c, h1, h3, h4, h5⟩ := h.1 i x (List.getElem?_eq_some_iff.1 hx).1 hx
  exact ⟨c, h1, by omega, by omega, h4, h5⟩
theorem StP.move {lo : Nat} {w w' : World} {g : Nat} {l : Chs} {bs : Nat → Nat} (h : StP lo w g l bs) (hs : w.heap.size ≤ w'.heap.size) (hk : ∀ k, lo ≤ k → k < w.heap.size → w'.heap[k]? = w.heap[k]?) : StP lo w' g l bs := by
  obtain ⟨cur, h1, h2, h3, h4, h5⟩ := h
  refine ⟨cur, (hk g h2 (Array.getElem?_eq_some_iff.1 h1).1).trans h1, h2, h3, fun i x hx => ?_, h5⟩
  obtain ⟨c, g1, g2, g3, g4, g5⟩ := h4 i x hx
  refine ⟨c, g1, g2, g3, by omega, own_set g5 (fun b hb => ?_)⟩
  simp only [Value.ownBlock, Option.some.injEq] at hb
  subst hb
  exact hk _ g2 g4
theorem StP.low {lo lo' : Nat} {w : World} {g : Nat} {l : Chs} {bs : Nat → Nat} (h : StP lo w g l bs) (hl : lo' ≤ lo) : StP lo' w g l bs := by
  obtain ⟨cur, h1, h2, h3, h4, h5⟩ := h
  refine ⟨cur, h1, by omega, h3, fun i x hx => ?_, h5⟩
  obtain ⟨c, g1, g2, g3, g4, g5⟩ := h4 i x hx
  exact ⟨c, g1, by omega, g3, g4, own_low2 g5 hl⟩
theorem blk_of {base g c : Nat} {w : World} {x : List Ve} (h : w.ownsRow base 61 2 (.slice (some ⟨g, 0, none⟩) x.length c) x.length (veCells x)) : x.length ≤ c ∧ VeBlk w g x := by
  rcases h.2 with ⟨e, h0⟩ | ⟨g', cap, cur, e, h1, h2, h3, h4, h5, h6⟩
  · cases e
  · simp only [Value.slice.injEq, Option.some.injEq, Addr.mk.injEq, and_true, true_and] at e
    obtain ⟨rfl, rfl⟩ := e
    refine ⟨h3, cur, h2, by omega, fun i y hy => ?_⟩
    obtain ⟨g0, g1⟩ := veCells_at x i y hy
    have hi := (List.getElem?_eq_some_iff.1 hy).1
    rw [← h6, List.getElem?_take, if_pos (by omega)] at g0 g1
    exact ⟨by simpa using g0, by simpa using g1⟩
theorem StP.own {lo : Nat} {w : World} {g : Nat} {l : Chs} {bs : Nat → Nat} (h : StP lo w g l bs) : StOwn lo w.heap.size w (some ⟨g, 0, none⟩) l bs := by
  obtain ⟨cur, h1, h2, h3, h4, h5⟩ := h
  refine ⟨g, cur, rfl, h2, (Array.getElem?_eq_some_iff.1 h1).1, h1, h3, fun i x hx => ?_, fun i j x y hx hy hij _ _ => h5 i j (List.getElem?_eq_some_iff.1 hx).1 (List.getElem?_eq_some_iff.1 hy).1 hij⟩
  obtain ⟨c, g1, g2, g3, g4, g5⟩ := h4 i x hx
  obtain ⟨q1, q2⟩ := blk_of g5
  exact ⟨_, c, g1, q1, fun _ => ⟨rfl, g2, g4, g3, q2⟩⟩
set_option maxHeartbeats 2000000 in
theorem of_chains_copy (a : Option Addr) (c : Nat) (l : Chs) (now : Int) (w : World) (hr : ChRow 0 w.heap.size w a l) (hbd : ChsBd 1048576 l) :
    Calls Try.prog 50 #[.agg #[.slice a l.length c, .int .i64 now], .func (.func 51) #[] #[]] w fun e w' =>
      ∃ bs, e = .returned (.slice (some ⟨w.heap.size + 1, 0, none⟩) l.length l.length) ∧ StP w.heap.size w' (w.heap.size + 1) l bs ∧ Below w.heap.size w w' := by
  obtain ⟨hl, ht⟩ := hbd
  obtain ⟨V, hV⟩ : ∃ V, V = w.alloc (.cells #[.slice a l.length c, .int .i64 now] 25) := ⟨_, rfl⟩
  have B0 : Below w.heap.size w V := by rw [hV]; exact (Below.refl _ _).alloc (Nat.le_refl _) _
  have zV : V.heap.size = w.heap.size + 1 := by rw [hV]; simp
  have HR : Hid (ChRow 0 V.heap.size V a l) := ChRow.up hr B0
  have HT : Hid (∀ x ∈ l, x.length ≤ 1048576) := ht
  have HB : Hid _ := B0
  clear hr ht B0
  obtain ⟨i27, hi, hz, hsz, hby⟩ := info_Ch
  have hmk := run_make (P := Try.prog) V 23 58 i27 _ Try.underlying23 hi hz .i64 .i64 (l.length : Int) (l.length : Int) (by omega) (by omega) (by rw [hby]; omega) (by omega)
  rw [hsz, Int.toNat_natCast, Nat.mul_one] at hmk
  clear hi hz hsz hby
  have hs0 := size_madeCells (Value.slice none 0 0).cells l.length
  generalize madeCells (Value.slice none 0 0).cells l.length = cs0 at *
  rw [hV] at hmk
  go_enter Try.func50, Try.ntmps50
  go_wp2_with fail
  have hN : V.heap.size = w.heap.size + 1 := zV
  rw [← hV]
  have hst : Below V.heap.size V (V.alloc (.cells cs0 58)) := (Below.refl _ _).alloc (Nat.le_refl _) _
  have hst2 : (V.alloc (.cells cs0 58)).heap[w.heap.size + 1]? = some (.cells cs0 58 (0, 0)) := by rw [← zV]; exact heap_alloc_new _ _
  have HST : Hid _ := hst2
  clear hst2 hmk
  go_loopw [15] (fun i w' => ∃ (k : Nat) (cs : Array Value) (bs : Nat → Nat), k ≤ l.length ∧ i = .int .i64 k ∧ Below V.heap.size V w' ∧ Hid (w'.heap[w.heap.size + 1]? = some (.cells cs 58 (0, 0))) ∧ cs.size = l.length ∧ Hid (PLaid (w.heap.size + 1) w' cs l k bs)) (fun i _ => l.length - (intOf i).toNat)
  case atStart => exact ⟨0, cs0, fun _ => 0, by omega, rfl, hst, HST, hs0, ⟨fun i x h => by omega, fun i j h => by omega⟩⟩
  case round =>
    obtain ⟨k, cs, bs, hk, rfl, hb, HH, hcs, HL⟩ := hrel
    obtain ⟨wo, rfl⟩ : ∃ x, x = wr := ⟨_, rfl⟩
    have hz := hb.size
    have hN2 : w.heap.size + 1 < wo.heap.size := (Array.getElem?_eq_some_iff.1 HH.out).1
    clear hs0 hst HST hV
    by_cases hlt : k < l.length
    · obtain ⟨b, o, a3, c3, ha, _, hbl, d0, hcap, r3⟩ := ChRow.cells (ChRow.keep HR.out (agree hb (Nat.le_refl _))) k hlt
      subst ha
      have R3 : Hid (VeRow 0 wo.heap.size wo a3 l[k]) := VeRow.wide r3 (Nat.le_refl _) hb.size
      have HX : Hid (l[k].length ≤ 1048576) := HT.out l[k] (List.getElem_mem hlt)
      clear r3
      go_wp2_with fail
      refine (copy_own a3 c3 l[k] _ R3.out HX.out).mono ?_
      rintro e w1 ⟨rfl, v1, hb1⟩
      have hz2 : wo.heap.size < w1.heap.size := own_lt2 v1 _ rfl
      have V1 : Hid _ := own_low2 (base' := w.heap.size + 1) v1 (by omega)
      have HH1 : Hid (w1.heap[w.heap.size + 1]? = some (.cells cs 58 (0, 0))) := (hb1.block _ hN2).trans HH.out
      have HL1 : Hid (PLaid (w.heap.size + 1) w1 cs l k bs) := PLaid.keep HL.out hb1.size (agree hb1 (Nat.le_refl _))
      have HNE : Hid (∀ i, i < k → bs i ≠ wo.heap.size) := fun i hi => by
        obtain ⟨_, _, _, h4, _⟩ := HL.out.1 i l[i] hi (List.getElem?_eq_getElem (by omega))
        omega
      obtain ⟨v0, hv0⟩ : ∃ v, w1.cell? ⟨w.heap.size + 1, k, none⟩ = some v := ⟨_, (row_cell HH1.out _).trans (Array.getElem?_eq_getElem (by omega))⟩
      have hf0 := row_frozen HH1.out k
      have qb : Hid (Below V.heap.size V w1) := hb.trans (hb1.mono hb.size)
      clear d0 v1 hb1
      go_wp2_with fail
      refine ⟨⟨k + 1, _, bput bs k wo.heap.size, by omega, by go_num, qb.out.setCell (by first | omega | (simp <;> omega)) _, row_set HH1.out _ _, by simp [hcs], ?_⟩, by simp [intOf]; omega⟩
      refine PLaid.put (g := wo.heap.size) (c := l[k].length) (PLaid.keep HL1.out (by simp) ?_) hlt (by omega) (by omega) (by simpa using hz2) (own_set V1.out ?_) HNE.out
      · intro g h1 h2
        exact heap_set _ _ _ _ _ (by omega)
      · intro g hg
        simp only [Value.ownBlock, Option.some.injEq] at hg
        subst hg
        exact heap_set _ _ _ _ _ (by omega)
    · go_wp2_with fail
      go_ret
      obtain rfl : k = l.length := by omega
      refine ⟨bs, rfl, ?_, HB.out.trans (hb.mono (by omega))⟩
      exact StP.low (StP.of_laid HL.out HH.out (by omega)) (by omega)
end Go.Proofs.Ytbpkjpoicelgcaa.G
namespace Go.Proofs.Ytbpkjpoicelgcaa.G
open Go.ChangeShapes Go.WideShapes Go.ChangeAt Go.RowKit
set_option linter.unusedVariables false

set_option maxHeartbeats 4000000 in
theorem impl_copyStore (a : Option Addr) (c : Nat) (l : Chs) (now : Int) (w : World) (hr : ChRow 0 w.heap.size w a l) (hbd : ChsBd 1048576 l) :
    Calls Try.prog 25 #[.agg #[.slice a l.length c, .int .i64 now]] w fun e w' =>
      ∃ g bs, e = .returned (.agg #[.slice (some ⟨g, 0, none⟩) l.length l.length, .int .i64 now]) ∧ StP w.heap.size w' g l bs ∧ Below w.heap.size w w' := by
  have HR : Hid (∀ W0, Below w.heap.size w W0 → ChRow 0 W0.heap.size W0 a l) := fun W0 hB => ChRow.up hr hB
  have HE : Hid _ := hbd
  clear hr hbd
  obtain ⟨V, hV⟩ : ∃ V, V = (w.alloc (.cells #[.slice a l.length c, .int .i64 now] 25)).alloc (.cells #[.slice none 0 0, .int .i64 0] 25) := ⟨_, rfl⟩
  have bV : Below w.heap.size w V := by
    rw [hV]
    repeat (first | exact Below.refl _ _ | refine Below.alloc ?_ (by first | omega | (simp <;> omega)) _)
  have zV : V.heap.size = w.heap.size + 2 := by rw [hV]; simp
  have c0 : V.heap[w.heap.size]? = some (.cells #[.slice a l.length c, .int .i64 now] 25 (0, 0)) := by
    rw [hV, Below.heap_alloc _ _ _ (by simp)]; exact heap_alloc_new _ _
  have c1 : V.heap[w.heap.size + 1]? = some (.cells #[.slice none 0 0, .int .i64 0] 25 (0, 0)) := by
    rw [hV]
    have := heap_alloc_new (w.alloc (.cells #[.slice a l.length c, .int .i64 now] 25)) (.cells #[.slice none 0 0, .int .i64 0] 25)
    simpa using this
  have KV : Hid (∀ W, Below V.heap.size V W → W.heap[w.heap.size]? = some (.cells #[.slice a l.length c, .int .i64 now] 25 (0, 0)) ∧ W.heap[w.heap.size + 1]? = some (.cells #[.slice none 0 0, .int .i64 0] 25 (0, 0)) ∧ Below w.heap.size w W) := fun W h =>
    ⟨(h.block _ (by omega)).trans c0, (h.block _ (by omega)).trans c1, bV.trans (h.mono (by omega))⟩
  have BV : Hid _ := bV
  have x0 := fun o => row_cell c0 o
  have x1 := fun o => row_cell c1 o
  have y1 := fun o => row_frozen c1 o
  clear c0 c1 bV
  go_enter Try.func25, Try.ntmps25
  go_wp2_with fail
  rw [← hV]
  clear hV
  go_region_with (go_at_call 50
                  refine Calls.mono (of_chains_copy a c l now _ (HR.out _ BV.out.drew) HE.out) ?_
                  rintro e w2 ⟨bs, rfl, p2, hb2⟩
                  have q2 : Hid (Below V.heap.size V w2) := (Below.refl _ _).drew.trans (hb2.mono (Nat.le_refl _))
                  have P2 : Hid (StP V.heap.size w2 (V.heap.size + 1) l bs) := p2
                  have z2 := hb2.size
                  have e0 := fun o => row_cell (KV.out _ q2.out).1 o
                  have e1 := fun o => row_cell (KV.out _ q2.out).2.1 o
                  have f1 := fun o => row_frozen (KV.out _ q2.out).2.1 o
                  clear p2 hb2)
  all_goals (try go_wp2_with fail)
  all_goals
    refine bodyPost_ret (v := .agg #[.slice (some ⟨V.heap.size + 1, 0, none⟩) l.length l.length, .int .i64 now]) (by simp [results, Try.results25, go_sem, e1]) rfl ⟨_, bs, rfl, ?_, ?_⟩
    · refine StP.low (StP.move P2.out (by simp) (fun k h1 h2 => ?_)) (by omega)
      repeat rw [heap_set _ _ _ _ _ (by omega)]
    · repeat (refine Below.setCell ?_ (by first | omega | (simp <;> omega)) _)
      exact (KV.out _ q2.out).2.2
end Go.Proofs.Ytbpkjpoicelgcaa.G
