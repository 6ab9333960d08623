/- OpOf: the specification's side. -/
import Derived.Test.YtibmddgmgljnbaaDocOp
import Derived.Deep.QuietTactic
namespace Go.Proofs.Ytibmddgmgljnbaa
open Go.ChangeShapes Go.WideShapes Go.ChangeAt Go.RowKit Go.Maps
set_option linter.unusedVariables false

theorem four_set {w : World} {N : Nat} {e : TypeId} {c0 c1 c2 c3 v0 v1 v2 v3 : Value} (h : w.heap[N]? = some (.cells #[c0, c1, c2, c3] e (0, 0))) : ((((w.setCell ⟨N, 0, none⟩ v0).setCell ⟨N, 1, none⟩ v1).setCell ⟨N, 2, none⟩ v2).setCell ⟨N, 3, none⟩ v3).heap[N]? = some (.cells #[v0, v1, v2, v3] e (0, 0)) := by
  have := row_set (row_set (row_set (row_set h 0 v0) 1 v1) 2 v2) 3 v3
  simpa using this
/-- The three blocks of the call: the document, the answer, the one found so far. -/
def OpBlk (N : Nat) (W : World) (a : Option Addr) (n c : Nat) (x : De) (a3 : Option Addr) (c3 : Nat) : Prop :=
  W.heap[N]? = some (.cells #[.slice a n c] 33 (0, 0)) ∧ W.heap[N + 1]? = some (.cells #[.int .i64 0, .string ⟨#[]⟩, .string ⟨#[]⟩, .slice none 0 0] 28 (0, 0)) ∧ W.heap[N + 2]? = some (.cells #[.int .i64 x.k, .string x.nm, .string x.on, .slice a3 x.sels.len c3] 28 (0, 0))
theorem OpBlk.keep {N : Nat} {W W' : World} {a : Option Addr} {n c : Nat} {x : De} {a3 : Option Addr} {c3 : Nat} (h : OpBlk N W a n c x a3 c3) (hk : ∀ g, N ≤ g → g < N + 3 → W'.heap[g]? = W.heap[g]?) : OpBlk N W' a n c x a3 c3 :=
  ⟨(hk _ (by omega) (by omega)).trans h.1, (hk _ (by omega) (by omega)).trans h.2.1, (hk _ (by omega) (by omega)).trans h.2.2⟩

set_option maxHeartbeats 4000000 in
set_option maxRecDepth 40000 in
theorem spec_op (a : Option Addr) (c : Nat) (l : List De) (w : World) (hr : DeRow 0 w.heap.size w a l) (hb : DefsBd 1048576 l) (hdb : docB l = true) :
    Calls Try.prog 28 #[.agg #[.slice a l.length c]] w fun e w' => (∃ x y a3 c3, e = .returned (.tuple #[deV x a3 c3, .int .i64 y]) ∧ OpR l x y ∧ SelRow 0 w.heap.size w a3 x.sels) ∧ Below w.heap.size w w' := by
  have HR : Hid (DeRow 0 w.heap.size w a l) := hr
  have HB : Hid (DefsBd 1048576 l) := hb
  have HDB : Hid _ := hdb
  have hl : l.length ≤ 1048576 := hb.1
  clear hr hb hdb
  go_enter Try.func28, Try.ntmps28
  go_wp2_with fail
  obtain ⟨W, hW⟩ : ∃ W, W = ((w.alloc (.cells #[.slice a l.length c] 33)).alloc (.cells #[.int .i64 0, .string ⟨#[]⟩, .string ⟨#[]⟩, .slice none 0 0] 28)).alloc (.cells #[.int .i64 0, .string ⟨#[]⟩, .string ⟨#[]⟩, .slice none 0 0] 28) := ⟨_, rfl⟩
  rw [← hW]
  have B0 : Below w.heap.size w W := by rw [hW]; exact (((Below.refl _ _).alloc (Nat.le_refl _) _).alloc (by simp) _).alloc (by simp <;> omega) _
  have zW : W.heap.size = w.heap.size + 3 := by rw [hW]; simp
  have F0 : Hid (OpBlk w.heap.size W a l.length c de0 none 0) := by
    unfold Hid
    rw [hW]
    refine ⟨?_, ?_, ?_⟩
    · rw [Below.heap_alloc _ _ _ (by simp <;> omega), Below.heap_alloc _ _ _ (by simp)]; exact heap_alloc_new _ _
    · rw [Below.heap_alloc _ _ _ (by simp)]
      have := heap_alloc_new (w.alloc (.cells #[.slice a l.length c] 33)) (.cells #[.int .i64 0, .string ⟨#[]⟩, .string ⟨#[]⟩, .slice none 0 0] 28)
      simpa using this
    · have := heap_alloc_new ((w.alloc (.cells #[.slice a l.length c] 33)).alloc (.cells #[.int .i64 0, .string ⟨#[]⟩, .string ⟨#[]⟩, .slice none 0 0] 28)) (.cells #[.int .i64 0, .string ⟨#[]⟩, .string ⟨#[]⟩, .slice none 0 0] 28)
      simpa [de0, Sels.len] using this
  clear hW
  go_loopw [5, 6] (fun n i w' => ∃ (k m : Nat) (x : De) (a3 : Option Addr) (c3 : Nat), k ≤ l.length ∧ i = .int .i64 k ∧ n = .int .i64 (m : Int) ∧ m ≤ k ∧ Hid (m = opsN (l.take k)) ∧ Hid ((frsOf (l.take k)).length + opsN (l.take k) = k) ∧ Hid (x = opL (l.take k)) ∧ Hid (SelRow 0 w.heap.size w a3 x.sels) ∧ Below w.heap.size w w' ∧ w.heap.size + 3 ≤ w'.heap.size ∧ Hid (OpBlk w.heap.size w' a l.length c x a3 c3)) (fun _ i _ => l.length - (intOf i).toNat)
  case atStart => exact ⟨0, 0, de0, none, 0, by omega, rfl, rfl, by omega, rfl, rfl, rfl, .inl rfl, B0, by omega, F0⟩
  case round =>
    obtain ⟨k, m, x, a9, c9, hk, rfl, rfl, hmk, HM, HS, HX, HXR, hb, hz, HO⟩ := hrel
    obtain ⟨ob1, ob2, ob3⟩ := HO.out
    have ks := row_cell ob1 0
    have q1 := fun o => row_cell ob2 o
    have q2 := fun o => row_frozen ob2 o
    have q3 := fun o => row_cell ob3 o
    have q4 := fun o => row_frozen ob3 o
    clear ob1 ob2 ob3
    by_cases hlt : k < l.length
    case neg =>
      obtain rfl : k = l.length := by omega
      have hM := HM.out
      have hS := HS.out
      have hX := HX.out
      rw [List.take_length] at hM hS hX
      have HNS : Hid (¬ (frsOf l).length + opsN l < l.length) := by unfold Hid; omega
      have HM9 : Hid (m = opsN l) := hM
      have HX9 : Hid (x = opL l) := hX
      have HBW : Hid _ := hb
      clear hM hS hX HM HS HX hb
      by_cases h0 : m = 0
      · have HN : Hid (OpR l de0 5) := .inr ⟨HDB.out, .inr ⟨HNS.out, .inl ⟨by rw [← HM9.out]; exact h0, rfl, rfl⟩⟩⟩
        subst h0
        go_wp2_with fail
        refine bodyPost_ret (v := .tuple #[deV de0 none 0, .int .i64 5]) (by simp [results, Try.results28, go_sem, q1, deV, de0, Sels.len]) rfl ⟨⟨_, _, _, _, rfl, HN.out, .inl rfl⟩, ?_⟩
        repeat (first | exact HBW.out | refine Below.setCell ?_ (by first | omega | (simp <;> omega)) _)
      have h0' : ((m : Int) == 0) = false := by simp; omega
      by_cases h1 : 1 < m
      · have HN : Hid (OpR l de0 6) := .inr ⟨HDB.out, .inr ⟨HNS.out, .inr (.inl ⟨by rw [← HM9.out]; exact h1, rfl, rfl⟩)⟩⟩
        go_wp2_with fail
        refine bodyPost_ret (v := .tuple #[deV de0 none 0, .int .i64 6]) (by simp [results, Try.results28, go_sem, q1, deV, de0, Sels.len]) rfl ⟨⟨_, _, _, _, rfl, HN.out, .inl rfl⟩, ?_⟩
        repeat (first | exact HBW.out | refine Below.setCell ?_ (by first | omega | (simp <;> omega)) _)
      have HN : Hid (OpR l x 0) := .inr ⟨HDB.out, .inr ⟨HNS.out, .inr (.inr ⟨by rw [← HM9.out]; omega, HX9.out, rfl⟩)⟩⟩
      go_wp2_with fail
      refine bodyPost_ret (v := .tuple #[deV x a9 c9, .int .i64 0]) (by simp [results, Try.results28, go_sem, q1, deV]) rfl ⟨⟨_, _, _, _, rfl, HN.out, HXR.out⟩, ?_⟩
      repeat (first | exact HBW.out | refine Below.setCell ?_ (by first | omega | (simp <;> omega)) _)
    obtain ⟨b, o, a3, c3, ha, _, hbl, d0, d1, d2, d3, r3⟩ := DeRow.cells HR.out k hlt
    subst ha
    have e0 := (hb.cell (p := ⟨b, o + k * 4, none⟩) hbl).trans d0
    have e1 := (hb.cell (p := ⟨b, o + k * 4 + 1, none⟩) hbl).trans d1
    have e2 := (hb.cell (p := ⟨b, o + k * 4 + 2, none⟩) hbl).trans d2
    have e3 := (hb.cell (p := ⟨b, o + k * 4 + 3, none⟩) hbl).trans d3
    have R3 : Hid (SelRow 0 w.heap.size w a3 l[k].sels) := r3
    have HBW : Hid (Below w.heap.size w wr) := hb
    clear d0 d1 d2 d3 r3
    obtain ⟨wo, rfl⟩ : ∃ x, x = wr := ⟨_, rfl⟩
    have kA := fun ob o => ((Below.refl wo.heap.size wo).alloc (Nat.le_refl _) ob).cell (p := ⟨w.heap.size + 2, o, none⟩) (show w.heap.size + 2 < wo.heap.size by omega)
    have jA := fun ob o => ((Below.refl wo.heap.size wo).alloc (Nat.le_refl _) ob).frozen (p := ⟨w.heap.size + 2, o, none⟩) (show w.heap.size + 2 < wo.heap.size by omega)
    cases h3 : (l[k].k == 3) with
    | false =>
      have HM2 : Hid (m + 1 = opsN (l.take (k + 1))) := by have := HM.out; have h9 := opsN_take hlt; rw [h3] at h9; rw [Hid, h9, ← this]; rfl
      have HS2 : Hid ((frsOf (l.take (k + 1))).length + opsN (l.take (k + 1)) = k + 1) := full_next hlt HS.out (.inl h3)
      have HX2 : Hid (l[k] = opL (l.take (k + 1))) := by have h9 := opL_take hlt; rw [h3] at h9; rw [Hid, h9]; rfl
      clear hb HM HS HX
      go_wp2_with fail
      refine ⟨⟨k + 1, m + 1, l[k], a3, c3, by omega, by go_num, by go_num, by omega, HM2, HS2, HX2, R3, ?_, by simp; omega, ?_⟩, by simp [intOf]; omega⟩
      · repeat (refine Below.setCell ?_ (by first | omega | (simp <;> omega)) _)
        exact HBW.out.alloc (by omega) _
      · obtain ⟨ob1, ob2, ob3⟩ := HO.out
        refine ⟨?_, ?_, four_set ((Below.heap_alloc _ _ _ (by omega)).trans ob3)⟩
        · repeat rw [heap_set _ _ _ _ _ (by omega)]
          exact (Below.heap_alloc _ _ _ (by omega)).trans ob1
        · repeat rw [heap_set _ _ _ _ _ (by omega)]
          exact (Below.heap_alloc _ _ _ (by omega)).trans ob2
    | true =>
      have HM2 : Hid (m = opsN (l.take (k + 1))) := by have := HM.out; have h9 := opsN_take hlt; rw [h3] at h9; rw [Hid, h9, ← this]; rfl
      have HX2 : Hid (x = opL (l.take (k + 1))) := by have := HX.out; have h9 := opL_take hlt; rw [h3] at h9; rw [Hid, h9, ← this]; rfl
      have HSF : Hid ((l.take k).any (isFr l[k].nm) = false → (frsOf (l.take (k + 1))).length + opsN (l.take (k + 1)) = k + 1) := fun h => full_next hlt HS.out (.inr h)
      have HST : Hid ((l.take k).any (isFr l[k].nm) = true → OpR l de0 19) := fun h => .inr ⟨HDB.out, .inl ⟨short_at hlt h3 h, rfl, rfl⟩⟩
      clear hb HM HS HX
      go_wp2_with fail
      obtain ⟨wa, hwa⟩ : ∃ W, W = wo.alloc (.cells #[.int .i64 l[k].k, .string l[k].nm, .string l[k].on, .slice a3 l[k].sels.len c3] 28) := ⟨_, rfl⟩
      rw [← hwa]
      have za : wa.heap.size = wo.heap.size + 1 := by rw [hwa]; simp
      have ba : Below wo.heap.size wo wa := by rw [hwa]; exact (Below.refl _ _).alloc (Nat.le_refl _) _
      have na : wa.cell? ⟨wo.heap.size, 1, none⟩ = some (.string l[k].nm) := by rw [hwa]; exact row_cell (heap_alloc_new _ _) 1
      have HOa : Hid (OpBlk w.heap.size wa (some ⟨b, o, none⟩) l.length c x a9 c9) := HO.out.keep fun g h1 h2 => ba.block g (by omega)
      have Ba : Hid (Below w.heap.size w wa) := HBW.out.trans (ba.mono (by omega))
      have zwa : w.heap.size + 4 ≤ wa.heap.size := by omega
      clear hwa ba ks q1 q2 q3 q4 kA jA e0 e1 e2 e3 HO HBW
      go_loopw [8] (fun i w' => ∃ (j : Nat), j ≤ k ∧ i = .int .i64 j ∧ Below wa.heap.size wa w' ∧ Hid (∀ y ∈ l.take j, isFr l[k].nm y = false)) (fun i _ => k - (intOf i).toNat)
      case atStart => exact ⟨0, by omega, rfl, Below.refl _ _, by simp [Hid]⟩
      case round =>
        obtain ⟨j, hj, rfl, hbj, HA⟩ := hrel
        have hbjz := hbj.size
        have HOj : Hid (OpBlk w.heap.size wr (some ⟨b, o, none⟩) l.length c x a9 c9) := HOa.out.keep fun g h1 h2 => hbj.block g (by omega)
        have Bj : Hid (Below w.heap.size w wr) := Ba.out.trans (hbj.mono (by omega))
        by_cases hjk : j < k
        case neg =>
          have HS2 : Hid ((frsOf (l.take (k + 1))).length + opsN (l.take (k + 1)) = k + 1) := HSF.out (by
            have h := HA.out
            rw [show j = k by omega] at h
            rw [List.any_eq_false]
            intro y hy; rw [h y hy]; simp)
          have hsz9 : w.heap.size + 3 ≤ wr.heap.size := by omega
          clear hbj
          go_wp2_with fail
          exact ⟨⟨k + 1, m, x, a9, c9, by omega, by go_num, rfl, by omega, HM2, HS2, HX2, HXR, Bj.out, hsz9, HOj⟩, by simp [intOf]; omega⟩
        have hjl : j < l.length := by omega
        obtain ⟨b', o', a4, c4, ha', _, hbl', d0, d1, d2, d3, r4⟩ := DeRow.cells HR.out j hjl
        simp only [Option.some.injEq, Addr.mk.injEq, and_true] at ha'
        obtain ⟨rfl, rfl⟩ := ha'
        have e0 := (Bj.out.cell (p := ⟨b, o + j * 4, none⟩) hbl').trans d0
        have e1 := (Bj.out.cell (p := ⟨b, o + j * 4 + 1, none⟩) hbl').trans d1
        have nj : wr.cell? ⟨wo.heap.size, 1, none⟩ = some (.string l[k].nm) := (hbj.cell (p := ⟨wo.heap.size, 1, none⟩) (show wo.heap.size < wa.heap.size by omega)).trans na
        obtain ⟨ob1, ob2, ob3⟩ := HOj.out
        have ks := row_cell ob1 0
        have q1 := fun o => row_cell ob2 o
        have q2 := fun o => row_frozen ob2 o
        have HBJ : Hid _ := hbj
        clear d0 d1 d2 d3 r4 hbj ob1 ob2 ob3
        cases h4 : (l[j].k == 3) with
        | false =>
          have HF : Hid (isFr l[k].nm l[j] = false) := by unfold Hid isFr; rw [h4]; rfl
          go_wp2_with fail
          go_quiet (fail)
          go_wp2_with fail
          go_roundw
          case rel => exact ⟨j + 1, by omega, by go_num, HBJ.out.trans (by exact ⟨rfl, rfl, rfl, Nat.le_refl _, fun _ _ => rfl⟩), isFr_take hjl HA.out HF.out⟩
          case measure => simp [intOf]; omega
        | true =>
        cases h5 : (l[j].nm.toList == l[k].nm.toList) with
        | false =>
          have HF : Hid (isFr l[k].nm l[j] = false) := by unfold Hid isFr; rw [h4, h5]; rfl
          go_wp2_with fail
          go_quiet (fail)
          go_wp2_with fail
          go_roundw
          case rel => exact ⟨j + 1, by omega, by go_num, HBJ.out.trans (by exact ⟨rfl, rfl, rfl, Nat.le_refl _, fun _ _ => rfl⟩), isFr_take hjl HA.out HF.out⟩
          case measure => simp [intOf]; omega
        | true =>
        have HN : Hid (OpR l de0 19) := HST.out (by
          rw [List.any_eq_true]
          refine ⟨l[j], ?_, by unfold isFr; rw [h4, h5]; rfl⟩
          rw [List.mem_take_iff_getElem]
          exact ⟨j, by omega, rfl⟩)
        go_wp2_with fail
        go_quiet (fail)
        go_wp2_with fail
        refine bodyPost_ret (v := .tuple #[deV de0 none 0, .int .i64 19]) (by simp [results, Try.results28, go_sem, q1, deV, de0, Sels.len]) rfl ⟨⟨_, _, _, _, rfl, HN.out, .inl rfl⟩, ?_⟩
        repeat (first | exact Bj.out | exact Bj.out.trans (by exact ⟨rfl, rfl, rfl, Nat.le_refl _, fun _ _ => rfl⟩) | refine Below.setCell ?_ (by first | omega | (simp <;> omega)) _)

set_option maxHeartbeats 4000000 in
set_option maxRecDepth 40000 in
theorem spec_opOf (a : Option Addr) (c : Nat) (l : List De) (w : World) (hr : DeRow 0 w.heap.size w a l) (hb : DefsBd 1048576 l) :
    Calls Try.prog 14 #[.agg #[.slice a l.length c]] w fun e w' => SaysR w.heap.size w' (OpR l) e ∧ Below w.heap.size w w' := by
  have K1 : Hid (∀ W0, Below w.heap.size w W0 → DeRow 0 W0.heap.size W0 a l) := fun W0 hB => DeRow.up hr hB
  have HB : Hid (DefsBd 1048576 l) := hb
  clear hr hb
  go_enter Try.func14, Try.ntmps14
  go_wp2_with fail
  refine (spec_doc a c l _ (K1.out _ ?b0) HB.out.1 HB.out.2).mono ?_
  case b0 => repeat (first | exact Below.refl _ _ | refine Below.setCell ?_ (by first | omega | (simp <;> omega)) _ | refine Below.alloc ?_ (by first | omega | (simp <;> omega)) _)
  rintro e w1 ⟨rfl, hb1⟩
  have z1 : w.heap.size + 2 ≤ w1.heap.size := by have := hb1.size; simp at this; omega
  have Q1 : Hid (Below w.heap.size w w1) := by
    refine Below.trans ?_ (hb1.mono (by first | omega | (simp <;> omega)))
    repeat (first | exact Below.refl _ _ | refine Below.setCell ?_ (by first | omega | (simp <;> omega)) _ | refine Below.alloc ?_ (by first | omega | (simp <;> omega)) _)
  have k10 := fun o => hb1.cell (p := ⟨w.heap.size, o, none⟩) (by first | omega | (simp <;> omega))
  have k11 := fun o => hb1.cell (p := ⟨w.heap.size + 1, o, none⟩) (by first | omega | (simp <;> omega))
  have j11 := fun o => hb1.frozen (p := ⟨w.heap.size + 1, o, none⟩) (by first | omega | (simp <;> omega))
  clear hb1
  cases hdb : docB l with
  | false =>
    have HN : Hid (OpR l de0 1) := .inl ⟨hdb, rfl, rfl⟩
    clear hdb
    go_wp2_with fail
    refine bodyPost_ret (v := .tuple #[.agg #[.int .i64 0, .string ⟨#[]⟩, .string ⟨#[]⟩, .slice none 0 0], .int .i64 1]) (by simp [results, Try.results14, go_sem, k11]) rfl ⟨SaysR.zero HN.out, ?_⟩
    repeat (first | exact Q1.out | refine Below.setCell ?_ (by first | omega | (simp <;> omega)) _ | refine Below.alloc ?_ (by first | omega | (simp <;> omega)) _)
  | true =>
  have HDB : Hid (docB l = true) := hdb
  clear hdb
  go_wp2_with fail
  refine (spec_op a c l _ (K1.out _ Q1.out) HB.out HDB.out).mono ?_
  rintro e w2 ⟨⟨x, y, a3, c3, rfl, hf, r3⟩, hb2⟩
  have z2 := hb2.size
  have Q2 : Hid (Below w.heap.size w w2) := Q1.out.trans (hb2.mono (by omega))
  have B2 : Hid (Below w1.heap.size w1 w2) := hb2
  have k21 := fun o => hb2.cell (p := ⟨w.heap.size + 1, o, none⟩) (show w.heap.size + 1 < w1.heap.size by omega)
  have j21 := fun o => hb2.frozen (p := ⟨w.heap.size + 1, o, none⟩) (show w.heap.size + 1 < w1.heap.size by omega)
  have HF : Hid (OpR l x y) := hf
  have HX : Hid (DeBd 1048576 x) := hf.bd HB.out
  have R3 : Hid (∀ W0, Below w2.heap.size w2 W0 → SelRow 0 W0.heap.size W0 a3 x.sels) := fun W0 hB => SelRow.up (SelRow.up r3 B2.out) hB
  clear hf r3 hb2
  unfold deV
  go_wp2_with fail
  refine (own_def x a3 c3 _ (R3.out _ ?b0) HX.out).mono ?_
  case b0 => repeat (first | exact Below.refl _ _ | refine Below.alloc ?_ (by first | omega | (simp <;> omega)) _)
  rintro e w3 ⟨b3, f3, rfl, A3, hb3⟩
  have z3 : w2.heap.size + 1 ≤ w3.heap.size := by have := hb3.size; simpa using this
  have A3 : Hid (SelRow (w.heap.size + 2) w3.heap.size w3 b3 x.sels) := SelRow.wide A3 (by first | omega | (simp <;> omega)) (Nat.le_refl _)
  have P3 : Below w2.heap.size w2 w3 := ((Below.refl _ _).alloc (Nat.le_refl _) _).trans (hb3.mono (by simp))
  have k31 := fun o => P3.cell (p := ⟨w.heap.size + 1, o, none⟩) (show w.heap.size + 1 < w2.heap.size by omega)
  have j31 := fun o => P3.frozen (p := ⟨w.heap.size + 1, o, none⟩) (show w.heap.size + 1 < w2.heap.size by omega)
  have Q3 : Hid (Below w.heap.size w w3) := Q2.out.trans (P3.mono (by omega))
  clear hb3 P3
  go_wp2_with fail
  refine bodyPost_ret (v := .tuple #[deV x b3 f3, .int .i64 y]) (by simp [results, Try.results14, go_sem, k31, k21, k11, deV]) rfl ?_
  have G : ∀ W' : World, W'.heap.size = w3.heap.size → Agree (w.heap.size + 2) w3.heap.size w3 W' → Below w.heap.size w W' → SaysR w.heap.size W' (OpR l) (.returned (.tuple #[deV x b3 f3, .int .i64 y])) ∧ Below w.heap.size w W' :=
    fun W' hw ha hB => ⟨⟨_, _, _, _, rfl, HF.out, SelRow.wide (SelRow.keep A3.out ha) (by omega) (by omega)⟩, hB⟩
  refine G _ (by simp) ?_ ?_
  · intro g h1 h2
    repeat rw [heap_set _ _ _ _ _ (by omega)]
  · repeat (refine Below.setCell ?_ (by first | omega | (simp <;> omega)) _)
    exact Q3.out
end Go.Proofs.Ytibmddgmgljnbaa
