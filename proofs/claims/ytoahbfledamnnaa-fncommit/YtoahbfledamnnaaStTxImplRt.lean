/- The program's ReadTxn. -/
import Derived.Test.YtoahbfledamnnaaStTxImplThree
import Derived.Test.YtoahbfledamnnaaStTxSpecThree
namespace Go.Proofs.Ytoahbfledamnnaa.G
open Go.ChangeShapes Go.WideShapes Go.ChangeAt Go.RowKit
set_option linter.unusedVariables false

/-- A transaction that is open lies in a block, its rows its own. -/
def OpT (N : Nat) (a : Option Addr) (ln c : Nat) (now st : Int) (rs : List Int) (ws : List Ve) (V : World) (u : Value) (W : World) : Prop :=
  ∃ g1 g2 g3, u = .pointer (some ⟨g3, 0, none⟩) ∧ N ≤ g3 ∧ W.heap[g3]? = some (.cells #[.slice a ln c, .int .i64 now, .int .i64 st, .slice (some ⟨g1, 0, none⟩) rs.length rs.length, .slice (some ⟨g2, 0, none⟩) ws.length ws.length] 66 (0, 0)) ∧ TxO N W (.slice (some ⟨g1, 0, none⟩) rs.length rs.length) (.slice (some ⟨g2, 0, none⟩) ws.length ws.length) rs ws ∧ Below V.heap.size V W
theorem TxO.rows {lo : Nat} {w : World} {x1 x2 : Option Addr} {n1 n2 c1 c2 : Nat} {rs : List Int} {ws : List Ve} (h : TxO lo w (.slice x1 n1 c1) (.slice x2 n2 c2) rs ws) : TxOwn lo w.heap.size w x1 x2 rs ws := by
  obtain ⟨r1, r2, a1, a2, e1, e2, h3⟩ := h.own
  simp only [Value.slice.injEq] at e1 e2
  rw [e1.1, e2.1]
  exact h3
/-- The keys that were read, one of them once. -/
def withK (rs : List Int) (k : Int) : List Int := if k ∈ rs then rs else rs ++ [k]
set_option maxHeartbeats 2000000 in
theorem with_key (rs : List Int) (k : Int) (a : Option Addr) (c lo : Nat) (w : World) (ho : w.ownsRow lo 3 1 (.slice a rs.length c) rs.length (nuV rs)) (hl : rs.length ≤ 1048576) (hlo : lo ≤ w.heap.size) :
    Calls Try.prog 31 #[.slice a rs.length c, .int .i64 k] w fun e w' => ∃ g cap, e = .returned (.slice (some ⟨g, 0, none⟩) (withK rs k).length cap) ∧ w'.ownsRow lo 3 1 (.slice (some ⟨g, 0, none⟩) (withK rs k).length cap) (withK rs k).length (nuV (withK rs k)) ∧ w.heap.size ≤ w'.heap.size ∧ (∀ g', g' < w.heap.size → (Value.slice a rs.length c).ownBlock ≠ some g' → w'.heap[g']? = w.heap[g']?) ∧ (∀ n V, Below n V w → n ≤ w.heap.size → (∀ g', (Value.slice a rs.length c).ownBlock = some g' → n ≤ g') → Below n V w') := by
  have HO : Hid _ := ho
  have hr : NuRow 0 w.heap.size w a rs := by
    obtain ⟨ra, rc, e1, h1⟩ := NuOwn.of ho
    simp only [Value.slice.injEq] at e1
    rw [e1.1]
    exact NuRow.wide (NuOwn.row h1) (Nat.zero_le _) (Nat.le_refl _)
  have HR : Hid _ := hr
  clear ho hr
  go_enter Try.func31, Try.ntmps31
  go_wp2_with fail
  refine (ints_contains a c rs k _ HR.out hl).mono ?_
  rintro e w1 ⟨rfl, hw1⟩
  rw [hw1]
  clear hw1 w1
  cases hC : decide (k ∈ rs)
  case true =>
    have hc0 : k ∈ rs := of_decide_eq_true hC
    have HC : Hid (k ∈ rs) := hc0
    clear hC hc0
    go_wp2_with fail
    have hk : withK rs k = rs := if_pos (show k ∈ rs from HC.out)
    rcases HO.out.2 with ⟨e1, _⟩ | ⟨ga, ca, cua, ea, h1, h2, h3⟩
    · simp only [Value.slice.injEq] at e1
      have : rs = [] := List.length_eq_zero_iff.1 e1.2.1
      have hc := HC.out
      rw [this] at hc; cases hc
    · have ho := HO.out
      simp only [Value.slice.injEq] at ea
      obtain ⟨rfl, _, rfl⟩ := ea
      go_ret
      exact ⟨ga, c, by rw [hk]; rfl, by rw [hk]; exact ho, Nat.le_refl _, fun _ _ _ => rfl, fun _ _ h _ _ => h⟩
  case false =>
    have hc0 : ¬ k ∈ rs := of_decide_eq_false hC
    have HC : Hid (¬ k ∈ rs) := hc0
    clear hC hc0
    have hk : withK rs k = rs ++ [k] := if_neg (show ¬ k ∈ rs from HC.out)
    obtain ⟨U3, hU3⟩ : ∃ x : World, x = w.alloc (.cells #[.int .i64 k] 3) := ⟨_, rfl⟩
    have b3 : Below w.heap.size w U3 := by rw [hU3]; exact (Below.refl _ _).alloc (Nat.le_refl _) _
    have cU3 : U3.heap[w.heap.size]? = some (.cells #[.int .i64 k] 3 (0, 0)) := by rw [hU3]; exact heap_alloc_new _ _
    have zU3 := b3.size
    obtain ⟨g4, k4, W4, hrun, o4, gr4, hg4, hg4z⟩ := app_num rs k (.slice a rs.length c) lo w.heap.size U3 (own_below HO.out b3) cU3 hl (by omega)
    have HK : Hid (withK rs k = rs ++ [k]) := hk
    have R1 : Hid (w.heap.size ≤ W4.heap.size) := by have := gr4.size; unfold Hid; omega
    have R2 : Hid (∀ g', g' < w.heap.size → (Value.slice a rs.length c).ownBlock ≠ some g' → W4.heap[g']? = w.heap[g']?) := fun g hg hn => (gr4.block g (by omega) (fun e => hn e.symm)).trans (b3.block g (by omega))
    have R3 : Hid (∀ n V, Below n V w → n ≤ w.heap.size → (∀ g', (Value.slice a rs.length c).ownBlock = some g' → n ≤ g') → Below n V W4) := fun n V h1 h2 h3 => (h1.trans (b3.mono h2)).grown gr4 (by omega) h3
    have O4 : Hid _ := o4
    have HRUN : Hid _ := hrun
    have HU3 : Hid (U3 = _) := hU3
    clear hk hU3 hrun o4 gr4 b3 cU3 zU3 hg4 hg4z
    go_wp2_with (first | (at_builtin; rw [← HU3.out]; refine wpList_append_run rfl _ _ _ rfl _ _ _ _ rfl rfl HRUN.out ?_) | fail)
    have hl' : (withK rs k).length = rs.length + 1 := by rw [HK.out]; simp
    go_ret
    exact ⟨g4, k4, by rw [hl']; rfl, by rw [hl', HK.out]; exact O4.out, R1.out, R2.out, R3.out⟩
set_option maxHeartbeats 8000000 in
theorem impl_rt (a ra wa : Option Addr) (c rq wq : Nat) (l : Chs) (now st : Int) (rs : List Int) (ws : List Ve) (key : Int) (sa : Int) (ra' : List Int) (wa' : List Ve) (vv cd : Int) (w : World) (hs : ChRow 0 w.heap.size w a l) (hsb : ChsBd 1048576 l) (hr : TxRow 0 w.heap.size w ra wa rs ws) (hbd : TxBd 1048576 rs ws) (h : RtIs l now st rs ws key sa ra' wa' vv cd) :
    Calls Try.prog 10 #[.agg #[.slice a l.length c, .int .i64 now], .agg #[.int .i64 st, .slice ra rs.length rq, .slice wa ws.length wq], .int .i64 key] w fun e w' => ∃ r1 c1 w1 c2, e = .returned (.tuple #[.agg #[.int .i64 sa, .slice r1 ra'.length c1, .slice w1 wa'.length c2], .int .i64 vv, .int .i64 cd]) ∧ TxOwn w.heap.size w'.heap.size w' r1 w1 ra' wa' ∧ Below w.heap.size w w' := by
  have HI : Hid _ := h
  clear h
  obtain ⟨V, hV⟩ : ∃ V, V = ((w.alloc (.cells #[.slice a l.length c, .int .i64 now] 25)).alloc (.cells #[.int .i64 st, .slice ra rs.length rq, .slice wa ws.length wq] 30)).alloc (.cells #[.int .i64 0, .slice none 0 0, .slice none 0 0] 30) := ⟨_, rfl⟩
  have bV : Below w.heap.size w V := by
    rw [hV]
    repeat (first | exact Below.refl _ _ | refine Below.alloc ?_ (by first | omega | (simp <;> omega)) _)
  have zV : w.heap.size + 3 ≤ V.heap.size := by rw [hV]; simp
  have c0 : V.heap[w.heap.size]? = some (.cells #[.slice a l.length c, .int .i64 now] 25 (0, 0)) := by
    rw [hV, Below.heap_alloc _ _ _ (by simp <;> omega), Below.heap_alloc _ _ _ (by simp <;> omega)]; exact heap_alloc_new _ _
  have c1 : V.heap[w.heap.size + 1]? = some (.cells #[.int .i64 st, .slice ra rs.length rq, .slice wa ws.length wq] 30 (0, 0)) := by
    rw [hV, Below.heap_alloc _ _ _ (by simp <;> omega)]
    have := heap_alloc_new (w.alloc (.cells #[.slice a l.length c, .int .i64 now] 25)) (.cells #[.int .i64 st, .slice ra rs.length rq, .slice wa ws.length wq] 30)
    simpa using this
  have c2 : V.heap[w.heap.size + 1 + 1]? = some (.cells #[.int .i64 0, .slice none 0 0, .slice none 0 0] 30 (0, 0)) := by
    rw [hV]
    have := heap_alloc_new ((w.alloc (.cells #[.slice a l.length c, .int .i64 now] 25)).alloc (.cells #[.int .i64 st, .slice ra rs.length rq, .slice wa ws.length wq] 30)) (.cells #[.int .i64 0, .slice none 0 0, .slice none 0 0] 30)
    simpa using this
  have KV : Hid (∀ W, Below V.heap.size V W → W.heap[w.heap.size]? = some (.cells #[.slice a l.length c, .int .i64 now] 25 (0, 0)) ∧ W.heap[w.heap.size + 1]? = some (.cells #[.int .i64 st, .slice ra rs.length rq, .slice wa ws.length wq] 30 (0, 0)) ∧ W.heap[w.heap.size + 1 + 1]? = some (.cells #[.int .i64 0, .slice none 0 0, .slice none 0 0] 30 (0, 0)) ∧ ChRow 0 W.heap.size W a l ∧ TxRow 0 W.heap.size W ra wa rs ws ∧ Below w.heap.size w W) := fun W h =>
    have hw := bV.trans (h.mono (by omega))
    ⟨(h.block _ (by omega)).trans c0, (h.block _ (by omega)).trans c1, (h.block _ (by omega)).trans c2, ChRow.up hs hw, TxRow.up hr hw, hw⟩
  have HE : Hid (ChsBd 1048576 l) := hsb
  have HD : Hid (TxBd 1048576 rs ws) := hbd
  have x0 := fun o => row_cell c0 o
  have x1 := fun o => row_cell c1 o
  clear hs hr hbd hsb c0 c1 c2 bV
  go_enter Try.func10, Try.ntmps10
  go_upto_region 1 with fail
  rw [← hV]
  clear hV
  go_wp2_with fail
  refine (impl_txnOK a ra wa c rq wq l now st rs ws _ (KV.out _ (Below.refl _ _)).2.2.2.1 HE.out (KV.out _ (Below.refl _ _)).2.2.2.2.1 HD.out).mono ?_
  rintro e w1 ⟨rfl, hb1⟩
  have q1 : Hid (Below V.heap.size V w1) := hb1
  obtain ⟨t0, t1, t2, t3, t4, t5⟩ := KV.out _ q1.out
  have z1 := hb1.size
  have xc1 := fun o => row_cell t2 o
  have yc1 := fun o => row_frozen t2 o
  have TB1 : Hid (Below w.heap.size w w1) := t5
  clear t0 t1 t2 t3 t4 t5 hb1 x0 x1
  cases hS : txnB l now st rs ws
  · obtain ⟨_, rfl, rfl, rfl, rfl, rfl⟩ : txnB l now st rs ws = false ∧ sa = 0 ∧ ra' = [] ∧ wa' = [] ∧ vv = 0 ∧ cd = 1 := by
      rcases HI.out with h | ⟨h, _⟩ | ⟨h, _⟩
      · exact h
      all_goals rw [hS] at h; cases h
    clear HI hS
    go_wp2_with fail
    refine bodyPost_ret (v := .tuple #[.agg #[.int .i64 0, .slice none 0 0, .slice none 0 0], .int .i64 0, .int .i64 1]) (by simp [results, Try.results10, go_sem, xc1]) rfl ⟨none, 0, none, 0, rfl, ⟨.inl rfl, .inl rfl⟩, ?_⟩
    repeat (refine Below.setCell ?_ (by first | omega | (simp <;> omega)) _)
    exact TB1.out
  have HS : Hid (txnB l now st rs ws = true) := hS
  have hal := txnB_all hS
  have HST : Hid (storeB l now = true) := hal.1
  have hrl := readsB_len hal.2.2.2
  have hwl : ws.length ≤ 400 := (putsB_all hal.2.2.1).1
  clear hS hal
  cases hK : keyS key
  · obtain ⟨_, _, rfl, rfl, rfl, rfl, rfl⟩ : txnB l now st rs ws = true ∧ inS key 0 15 = false ∧ sa = 0 ∧ ra' = [] ∧ wa' = [] ∧ vv = 0 ∧ cd = 4 := by
      rcases HI.out with ⟨h, _⟩ | h | ⟨_, h, _⟩
      · rw [HS.out] at h; cases h
      · exact h
      · have := (inS_iff _ _ _).1 h
        rw [(keyB_iff key).2 ⟨by omega, by omega⟩] at hK; cases hK
    clear HI
    go_wp2_with (first | (go_at_call 28; refine (impl_isKey _ _).mono ?_; rintro e w' ⟨rfl, hw⟩; rw [hw, hK]) | fail)
    refine bodyPost_ret (v := .tuple #[.agg #[.int .i64 0, .slice none 0 0, .slice none 0 0], .int .i64 0, .int .i64 4]) (by simp [results, Try.results10, go_sem, xc1]) rfl ⟨none, 0, none, 0, rfl, ⟨.inl rfl, .inl rfl⟩, ?_⟩
    repeat (refine Below.setCell ?_ (by first | omega | (simp <;> omega)) _)
    exact TB1.out
  obtain ⟨hk0, hk1⟩ := (keyB_iff key).1 hK
  obtain ⟨_, _, e1, rfl, e3, rfl, rfl⟩ : txnB l now st rs ws = true ∧ inS key 0 15 = true ∧ sa = st ∧ ra' = rdK rs ws key ∧ wa' = ws ∧ vv = rdV l st ws key ∧ cd = 0 := by
    rcases HI.out with ⟨h, _⟩ | ⟨_, h, _⟩ | h
    · rw [HS.out] at h; cases h
    · rw [(inS_iff _ _ _).2 ⟨by omega, by omega⟩] at h; cases h
    · exact h
  replace e1 := e1.symm
  replace e3 := e3.symm
  subst e1 e3
  clear HI
  obtain ⟨k, rfl⟩ : ∃ k : Nat, key = k := ⟨key.toNat, by omega⟩
  have h16 := (storeB_all HST.out).1
  have hkl : k < l.length := by omega
  have HRI : Hid (Rise l[k]) := store_rise HST.out hkl
  have HCA : Hid (chAt l (k : Int).toNat = l[k]) := by rw [Hid, Int.toNat_natCast, chAt_eq hkl]
  clear h16
  clear xc1 yc1
  go_upto_region 5 with (first | (go_at_call 28; refine (impl_isKey _ _).mono ?_; rintro e w' ⟨rfl, hw⟩; rw [hw, hK]) | fail)
  have T1 := KV.out _ q1.out
  have xa1 := fun o => row_cell T1.1 o
  have xb1 := fun o => row_cell T1.2.1 o
  have xa2 := fun ob o => (World.cell?_alloc_past (w := w1) ob w.heap.size o (by omega)).trans (xa1 o)
  have xb2 := fun ob o => (World.cell?_alloc_past (w := w1) ob (w.heap.size + 1) o (by omega)).trans (xb1 o)
  clear T1
  go_cut [9] from 23 to 26 (fun u wx => OpT w1.heap.size a l.length c now st rs ws w1 u wx)
  case first =>
    go_region_with (first
      | (go_at_call 29
         refine Calls.mono (copy_txn ra wa rq wq st rs ws _ (KV.out _ (by repeat (first | exact q1.out | refine Below.drew ?_ | refine Below.alloc ?_ (by first | omega | (simp <;> omega)) _))).2.2.2.2.1 HD.out) ?_
         rintro e v2 ⟨g1, g2, rfl, o2, hb2⟩
         have O2 : Hid _ := o2
         have q2 : Below w1.heap.size w1 v2 := Below.trans (by repeat (first | exact Below.refl _ _ | refine Below.drew ?_ | refine Below.alloc ?_ (by first | omega | (simp <;> omega)) _)) (hb2.mono (by first | exact Nat.le_refl _ | (simp <;> omega)))
         have Q2 : Hid _ := q2
         have ka := fun o => row_cell (KV.out _ (q1.out.trans (q2.mono z1))).1 o
         have zq := q2.size
         have ka2 := fun ob o => (World.cell?_alloc_past (w := v2) ob w.heap.size o (by omega)).trans (ka o)
         first
         | (have kb : v2.heap[w1.heap.size]? = some (.cells #[.slice none 0 0, .int .i64 0, .int .i64 0, .slice none 0 0, .slice none 0 0] 66 (0, 0)) := (hb2.block w1.heap.size (by simp)).trans (heap_alloc_new w1 _)
            have KB : Hid _ := kb
            have kz := fun o => row_cell kb o
            have kf := fun o => row_frozen kb o
            clear kb)
         | skip
         clear o2 hb2))
    all_goals (try go_wp2_with fail)
    all_goals go_meet
    all_goals (first
      | exact ⟨g1, g2, _, rfl, zq, heap_alloc_new _ _, TxO.low (TxO.move O2.out (fun j h1 h2 => Below.heap_alloc _ _ _ h2)) (by first | exact Nat.le_refl _ | (simp; done)), Q2.out.alloc zq _⟩
      | (refine ⟨g1, g2, _, rfl, Nat.le_refl _, ?_, ?_, ?_⟩
         · have h1 := row_set (row_set (row_set (row_set (row_set KB.out 0 (.slice a l.length c)) 1 (.int .i64 now)) 2 (.int .i64 st)) 3 (.slice (some ⟨g1, 0, none⟩) rs.length rs.length)) 4 (.slice (some ⟨g2, 0, none⟩) ws.length ws.length)
           simpa using h1
         · refine TxO.low (TxO.move O2.out (fun j h1 h2 => ?_)) (by simp)
           have h1' : w1.heap.size + 1 ≤ j := by simpa using h1
           repeat rw [heap_set _ _ _ _ _ (by omega)]
         · repeat (refine Below.setCell ?_ (by first | omega | (simp <;> omega)) _)
           exact Q2.out))
  clear xa1 xb1 xa2 xb2
  obtain ⟨wx, rfl⟩ : ∃ x, x = wc := ⟨_, rfl⟩
  obtain ⟨g1, g2, g3, rfl, hg3, X3', TO', BX⟩ := hcut
  have zx := BX.size
  have hg3x := (Array.getElem?_eq_some_iff.1 X3').1
  have hg1x := own_lt3 TO'.1 g1 rfl
  have hg2x := own_lt3 TO'.2 g2 rfl
  have qx : Hid (Below V.heap.size V wx) := q1.out.trans (BX.mono z1)
  have XX : Hid _ := X3'
  have TOX : Hid _ := TO'
  have xw' := fun o => row_cell X3' o
  have hn12 : g1 ≠ g2 := by
    rcases TO'.1.2 with ⟨e1, _⟩ | ⟨ga, ca, cua, ea, _, ha, _⟩
    · cases e1
    rcases TO'.2.2 with ⟨e2, _⟩ | ⟨gb, cb, cub, eb, _, hb, _⟩
    · cases e2
    simp only [Value.slice.injEq, Option.some.injEq, Addr.mk.injEq] at ea eb
    obtain ⟨⟨rfl, _⟩, _⟩ := ea
    obtain ⟨⟨rfl, _⟩, _⟩ := eb
    rintro rfl
    rw [ha] at hb; simp at hb
  have hn13 : g1 ≠ g3 := by
    rcases TO'.1.2 with ⟨e1, _⟩ | ⟨ga, ca, cua, ea, _, ha, _⟩
    · cases e1
    simp only [Value.slice.injEq, Option.some.injEq, Addr.mk.injEq] at ea
    obtain ⟨⟨rfl, _⟩, _⟩ := ea
    rintro rfl
    rw [ha] at X3'; simp at X3'
  have hn23 : g2 ≠ g3 := by
    rcases TO'.2.2 with ⟨e2, _⟩ | ⟨gb, cb, cub, eb, _, hb, _⟩
    · cases e2
    simp only [Value.slice.injEq, Option.some.injEq, Addr.mk.injEq] at eb
    obtain ⟨⟨rfl, _⟩, _⟩ := eb
    rintro rfl
    rw [hb] at X3'; simp at X3'
  clear X3' TO' BX
  go_wp2_with fail
  refine (last_written (some ⟨g2, 0, none⟩) _ ws k _ (TxRow.wide (TxO.rows TOX.out).row (Nat.zero_le _) (Nat.le_refl _)).2 (by omega)).mono ?_
  rintro e w3 ⟨rfl, b3⟩
  have z3 := b3.size
  have q3 : Hid (Below V.heap.size V w3) := qx.out.trans (b3.mono (by have := qx.out.size; omega))
  have X3 : Hid (w3.heap[g3]? = _) := (b3.block _ hg3x).trans XX.out
  have Z2 : Hid (w3.heap[w.heap.size + 1 + 1]? = _) := (KV.out _ q3.out).2.2.1
  have TO : Hid (TxO (w.heap.size + 3) w3 (.slice (some ⟨g1, 0, none⟩) rs.length rs.length) (.slice (some ⟨g2, 0, none⟩) ws.length ws.length) rs ws) := TxO.low (TxO.move TOX.out (fun j h1 h2 => b3.block j h2)) (by omega)
  have BW : Hid (Below w.heap.size w w3) := (KV.out _ q3.out).2.2.2.2.2
  have CH : Hid (∀ W, Below w3.heap.size w3 W → ChRow 0 W.heap.size W a l) := fun W h => (KV.out _ (q3.out.trans (h.mono (by have := q3.out.size; omega)))).2.2.2.1
  have xw := fun o => row_cell X3.out o
  have xz := fun o => row_cell Z2.out o
  have fz := fun o => row_frozen Z2.out o
  clear b3 XX TOX xw' TB1
  cases hW : wroteB ws k
  case true =>
    have HRK : Hid (rdK rs ws k = rs) := if_pos (.inl hW)
    have HRV : Hid (rdV l st ws k = wroteV ws k) := by
      unfold wroteB at hW
      unfold Hid rdV wroteV
      cases hL : lastW (k : Int) ws with
      | none => rw [hL] at hW; cases hW
      | some v => rfl
    clear hW
    go_wp2_with fail
    refine bodyPost_ret (v := .tuple #[.agg #[.int .i64 st, .slice (some ⟨g1, 0, none⟩) rs.length rs.length, .slice (some ⟨g2, 0, none⟩) ws.length ws.length], .int .i64 (wroteV ws k), .int .i64 0]) (by simp [results, Try.results10, go_sem, xz]) rfl ⟨some ⟨g1, 0, none⟩, rs.length, some ⟨g2, 0, none⟩, ws.length, by rw [HRK.out, HRV.out], ?_, ?_⟩
    · rw [HRK.out]
      refine TxOwn.wide (TxO.rows (TxO.move TO.out (fun j h1 h2 => ?_))) (by omega) (Nat.le_refl _)
      repeat rw [heap_set _ _ _ _ _ (by omega)]
    · repeat (refine Below.setCell ?_ (by first | omega | (simp <;> omega)) _)
      exact BW.out
  case false =>
    have HNL : Hid (lastW (k : Int) ws = none) := by
      unfold wroteB at hW
      cases hL : lastW (k : Int) ws with
      | none => exact (rfl : none = none)
      | some v => rw [hL] at hW; cases hW
    have HRV : Hid (rdV l st ws k = readV l[k] st) := by unfold Hid rdV; rw [HNL.out, HCA.out]; rfl
    clear hW
    go_wp2_with fail
    refine (with_key rs k (some ⟨g1, 0, none⟩) rs.length (w.heap.size + 3) _ TO.out.1 (by omega) (by omega)).mono ?_
    rintro e W4 ⟨g4, k4, rfl, o4, hz4, kept', bel⟩
    have HRK : Hid (rdK rs ws k = withK rs k) := by
      unfold Hid rdK withK
      rw [HNL.out]
      by_cases hC : (k : Int) ∈ rs
      · rw [if_pos hC, if_pos (.inr hC)]
      · rw [if_neg hC, if_neg (by simp; exact hC)]
    obtain ⟨rs4, hrs4⟩ : ∃ x, x = withK rs k := ⟨_, rfl⟩
    rw [← hrs4] at o4 HRK
    rw [← hrs4]
    clear hrs4
    have kept : ∀ g, g < w3.heap.size → g ≠ g1 → W4.heap[g]? = w3.heap[g]? := fun g hg hn => kept' g hg (fun e => hn (by simpa [Value.ownBlock] using e.symm))
    have X4 := (kept g3 (by omega) (Ne.symm hn13)).trans X3.out
    have Z4 := (kept (w.heap.size + 1 + 1) (by omega) (by omega)).trans Z2.out
    have BW4 : Below w.heap.size w W4 := bel _ _ BW.out (by have := BW.out.size; omega) (fun g e => by simp [Value.ownBlock] at e; omega)
    have hg4n : g4 ≠ g3 ∧ w.heap.size + 3 ≤ g4 := by
      rcases o4.2 with ⟨e1, _⟩ | ⟨ga, ca, cua, ea, h1, ha, _⟩
      · cases e1
      simp only [Value.slice.injEq, Option.some.injEq, Addr.mk.injEq] at ea
      obtain ⟨⟨rfl, _⟩, _⟩ := ea
      refine ⟨?_, h1⟩
      rintro rfl
      rw [X4] at ha; simp at ha
    have P4 : W4.ownsRow (w.heap.size + 3) 43 2 (.slice (some ⟨g2, 0, none⟩) ws.length ws.length) ws.length (veCells ws) := own_set TO.out.2 (fun g hg => by
      simp only [Value.ownBlock, Option.some.injEq] at hg
      subst hg
      exact kept _ (by omega) (Ne.symm hn12))
    obtain ⟨W5, hW5⟩ : ∃ x : World, x = W4.setCell ⟨g3, 3, none⟩ (.slice (some ⟨g4, 0, none⟩) rs4.length k4) := ⟨_, rfl⟩
    have X5 : Hid (W5.heap[g3]? = some (.cells #[.slice a l.length c, .int .i64 now, .int .i64 st, .slice (some ⟨g4, 0, none⟩) rs4.length k4, .slice (some ⟨g2, 0, none⟩) ws.length ws.length] 66 (0, 0))) := by
      have h1 := row_set X4 3 (.slice (some ⟨g4, 0, none⟩) rs4.length k4)
      rw [Hid, hW5]; simpa using h1
    have k5 : ∀ g, g ≠ g3 → W5.heap[g]? = W4.heap[g]? := fun g hg => by rw [hW5, heap_set _ _ _ _ _ hg]
    have z5s : W5.heap.size = W4.heap.size := by rw [hW5]; simp
    have Z5' : W5.heap[w.heap.size + 1 + 1]? = some (.cells #[.int .i64 0, .slice none 0 0, .slice none 0 0] 30 (0, 0)) := (k5 _ (by omega)).trans Z4
    have TO5' : TxO (w.heap.size + 3) W5 (.slice (some ⟨g4, 0, none⟩) rs4.length k4) (.slice (some ⟨g2, 0, none⟩) ws.length ws.length) rs4 ws := by
      refine ⟨own_set o4 (fun g hg => ?_), own_set P4 (fun g hg => ?_)⟩
      · simp only [Value.ownBlock, Option.some.injEq] at hg; subst hg; exact k5 _ hg4n.1
      · simp only [Value.ownBlock, Option.some.injEq] at hg; subst hg; exact k5 _ hn23
    have BV5 : Below V.heap.size V W5 := by
      have h1 : Below V.heap.size V W4 := bel _ _ q3.out (by have := q3.out.size; omega) (fun g e => by simp [Value.ownBlock] at e; omega)
      rw [hW5]; exact h1.setCell (by show V.heap.size ≤ g3; omega) _
    have CH5 : Hid (∀ W, Below W5.heap.size W5 W → ChRow 0 W.heap.size W a l) := fun W h => (KV.out _ (BV5.trans (h.mono (by omega)))).2.2.2.1
    have BW5 : Hid (Below w.heap.size w W5) := by rw [Hid, hW5]; exact BW4.setCell (by show w.heap.size ≤ g3; omega) _
    have x4 := fun o => row_cell X4 o
    have y4 := fun o => row_frozen X4 o
    have HW5 : Hid (W5 = _) := hW5
    have ZZ5 : Hid _ := Z5'
    have TTO5 : Hid _ := TO5'
    clear hW5 o4 kept kept' bel X4 Z4 BW4 P4 k5 Z5' TO5' BV5
    go_upto_region 10 with fail
    rw [← HW5.out]
    have zz5 : w3.heap.size ≤ W5.heap.size := by omega
    clear x4 y4 HW5 z5s hz4 CH BW TO Z2 X3 xw xz fz
    have xw := fun o => row_cell X5.out o
    have TO := TTO5
    have Z2 := ZZ5
    have BW := BW5
    have CH := CH5
    clear TTO5 ZZ5 BW5 CH5
    go_region_with (first
      | (go_at_call 32
         refine Calls.mono (store_tells a c l now st k _ (CH.out _ (Below.refl _ _).drew) HE.out hkl HRI.out) ?_
         rintro e v5 ⟨rfl, hb5⟩
         have hb5' : Below W5.heap.size W5 v5 := (Below.refl _ _).drew.trans hb5
         have TO5 : Hid (TxO (w.heap.size + 3) v5 (.slice (some ⟨g4, 0, none⟩) rs4.length k4) (.slice (some ⟨g2, 0, none⟩) ws.length ws.length) rs4 ws) := TxO.move TO.out (fun j h1 h2 => hb5'.block j h2)
         have Z5 : Hid (v5.heap[w.heap.size + 1 + 1]? = some (.cells #[.int .i64 0, .slice none 0 0, .slice none 0 0] 30 (0, 0))) := (hb5'.block _ (by omega)).trans Z2.out
         have B5 : Hid (Below w.heap.size w v5) := BW.out.trans (hb5'.mono (by omega))
         have z5 := hb5'.size
         have kx := fun o => (hb5'.cell (p := ⟨g3, o, none⟩) (show g3 < W5.heap.size by omega)).trans (xw o)
         have kz := fun o => row_cell Z5.out o
         have kf := fun o => row_frozen Z5.out o
         clear hb5 hb5'))
    all_goals (try go_wp2_with fail)
    all_goals (refine bodyPost_ret (v := .tuple #[.agg #[.int .i64 st, .slice (some ⟨g4, 0, none⟩) rs4.length k4, .slice (some ⟨g2, 0, none⟩) ws.length ws.length], .int .i64 (readV l[k] st), .int .i64 0]) (by simp [results, Try.results10, go_sem, kz]) rfl ⟨(some ⟨g4, 0, none⟩), k4, some ⟨g2, 0, none⟩, ws.length, by rw [HRK.out, HRV.out], ?_, ?_⟩)
    all_goals (first
      | (rw [HRK.out]
         refine TxOwn.wide (TxO.rows (TxO.move TO5.out (fun j h1 h2 => ?_))) (by omega) (Nat.le_refl _)
         repeat rw [heap_set _ _ _ _ _ (by omega)])
      | (repeat (refine Below.setCell ?_ (by first | omega | (simp <;> omega)) _)
         exact B5.out))
end Go.Proofs.Ytoahbfledamnnaa.G
