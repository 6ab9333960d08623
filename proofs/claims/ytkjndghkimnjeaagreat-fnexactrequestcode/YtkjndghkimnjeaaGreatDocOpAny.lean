/- The one operation of whatever document: the specification's side. -/
import Derived.Test.YtkjndghkimnjeaaGreatDocOp
import Derived.Deep.QuietTactic
namespace Go.Proofs.YtkjndghkimnjeaaGreat
open Go.ChangeShapes Go.WideShapes Go.ChangeAt Go.RowKit Go.Maps
set_option linter.unusedVariables false

/-- What is told of a document's operation, right or not. -/
def OpQ (l : List De) (x : De) (y : Int) : Prop :=
  ((frsOf l).length + opsN l < l.length ∧ x = de0 ∧ y = 19) ∨ (¬ (frsOf l).length + opsN l < l.length ∧ ((opsN l = 0 ∧ x = de0 ∧ y = 5) ∨ (1 < opsN l ∧ x = de0 ∧ y = 6) ∨ (opsN l = 1 ∧ x = opL l ∧ y = 0)))
def opCode (l : List De) : Int := if (frsOf l).length + opsN l < l.length then 19 else if opsN l = 0 then 5 else if 1 < opsN l then 6 else 0
theorem OpQ.code {l : List De} {x : De} {y : Int} (h : OpQ l x y) : y = opCode l := by
  unfold opCode
  rcases h with ⟨h, _, rfl⟩ | ⟨h, ⟨h2, _, rfl⟩ | ⟨h2, _, rfl⟩ | ⟨h2, _, rfl⟩⟩
  · rw [if_pos h]
  · rw [if_neg h, if_pos h2]
  · rw [if_neg h, if_neg (by omega), if_pos h2]
  · rw [if_neg h, if_neg (by omega), if_neg (by omega)]
theorem PlR.code {l : List De} {p y : Int} (h : PlR l p y) : y = opCode l := by
  unfold opCode
  rcases h with ⟨h, _, rfl⟩ | ⟨h, ⟨h2, _, rfl⟩ | ⟨h2, _, rfl⟩ | ⟨h2, rfl, _⟩⟩
  · rw [if_pos h]
  · rw [if_neg h, if_pos h2]
  · rw [if_neg h, if_neg (by omega), if_pos h2]
  · rw [if_neg h, if_neg (by omega), if_neg (by omega)]
set_option maxHeartbeats 1000000 in
theorem impl_opFault (a : Option Addr) (c : Nat) (l : List De) (w : World) (hr : DeRow 0 w.heap.size w a l) (hb : DefsBd 1048576 l) :
    Calls Tryz.prog 58 #[.agg #[.slice a l.length c]] w fun e w' => e = .returned (.int .i64 (opCode l)) ∧ Below w.heap.size w w' := by
  obtain ⟨V, hV⟩ : ∃ V, V = w.alloc (.cells #[.slice a l.length c] 33) := ⟨_, rfl⟩
  have B0 : Below w.heap.size w V := by rw [hV]; exact (Below.refl _ _).alloc (Nat.le_refl _) _
  have c0 : V.heap[w.heap.size]? = some (.cells #[.slice a l.length c] 33 (0, 0)) := by rw [hV]; exact heap_alloc_new _ _
  have HR : Hid _ := DeRow.up hr B0
  have HB : Hid _ := hb
  have B1 : Hid _ := B0
  have x0 := fun o => row_cell c0 o
  clear hr hb c0 B0
  go_enter Tryz.func58, Tryz.ntmps58
  go_upto_region 1 with fail
  rw [← hV]
  clear hV
  go_wp2_with fail
  refine (op_place a c l _ HR.out HB.out).mono ?_
  rintro e w1 ⟨p, y, rfl, hp, hb1⟩
  have QQ : Hid (Below w.heap.size w w1) := B1.out.trans (hb1.mono B1.out.size)
  have HY : Hid (y = opCode l) := hp.code
  clear hp hb1 x0
  go_wp2_with fail
  go_ret
  exact ⟨by rw [HY.out]; rfl, QQ.out⟩
theorem heap_setZ (w : World) (b o : Nat) (v : Value) (g : Nat) (h : g ≠ b) : (w.setCell ⟨b, o, none⟩ v).heap[g]? = w.heap[g]? := Below.heap_setCell _ _ _ _ h
theorem four_setA {w : World} {N : Nat} {e : TypeId} {c0 c1 c2 c3 v0 v1 v2 v3 : Value} (h : w.heap[N]? = some (.cells #[c0, c1, c2, c3] e (0, 0))) : ((((w.setCell ⟨N, 0, none⟩ v0).setCell ⟨N, 1, none⟩ v1).setCell ⟨N, 2, none⟩ v2).setCell ⟨N, 3, none⟩ v3).heap[N]? = some (.cells #[v0, v1, v2, v3] e (0, 0)) := by
  have := row_set (row_set (row_set (row_set h 0 v0) 1 v1) 2 v2) 3 v3
  simpa using this
/-- The three blocks of the call: the document, the answer, the one found so far. -/
def OpBlkA (N : Nat) (W : World) (a : Option Addr) (n c : Nat) (x : De) (a3 : Option Addr) (c3 : Nat) : Prop :=
  W.heap[N]? = some (.cells #[.slice a n c] 33 (0, 0)) ∧ W.heap[N + 1]? = some (.cells #[.int .i64 0, .string ⟨#[]⟩, .string ⟨#[]⟩, .slice none 0 0] 78 (0, 0)) ∧ W.heap[N + 2]? = some (.cells #[.int .i64 x.k, .string x.nm, .string x.on, .slice a3 x.sels.len c3] 78 (0, 0))
theorem OpBlkA.keep {N : Nat} {W W' : World} {a : Option Addr} {n c : Nat} {x : De} {a3 : Option Addr} {c3 : Nat} (h : OpBlkA N W a n c x a3 c3) (hk : ∀ g, N ≤ g → g < N + 3 → W'.heap[g]? = W.heap[g]?) : OpBlkA N W' a n c x a3 c3 :=
  ⟨(hk _ (by omega) (by omega)).trans h.1, (hk _ (by omega) (by omega)).trans h.2.1, (hk _ (by omega) (by omega)).trans h.2.2⟩

set_option maxHeartbeats 8000000 in
set_option maxRecDepth 40000 in
theorem spec_op_any (a : Option Addr) (c : Nat) (l : List De) (w : World) (hr : DeRow 0 w.heap.size w a l) (hb : DefsBd 1048576 l) :
    Calls Tryz.prog 41 #[.agg #[.slice a l.length c]] w fun e w' => (∃ x y a3 c3, e = .returned (.tuple #[deV x a3 c3, .int .i64 y]) ∧ OpQ l x y ∧ SelRow 0 w.heap.size w a3 x.sels) ∧ Below w.heap.size w w' := by
  have HR : Hid (DeRow 0 w.heap.size w a l) := hr
  have HB : Hid (DefsBd 1048576 l) := hb
  have hl : l.length ≤ 1048576 := hb.1
  clear hr hb
  go_enter Tryz.func41, Tryz.ntmps41
  go_wp2_with fail
  obtain ⟨W, hW⟩ : ∃ W, W = ((w.alloc (.cells #[.slice a l.length c] 33)).alloc (.cells #[.int .i64 0, .string ⟨#[]⟩, .string ⟨#[]⟩, .slice none 0 0] 78)).alloc (.cells #[.int .i64 0, .string ⟨#[]⟩, .string ⟨#[]⟩, .slice none 0 0] 78) := ⟨_, rfl⟩
  rw [← hW]
  have B0 : Below w.heap.size w W := by rw [hW]; exact (((Below.refl _ _).alloc (Nat.le_refl _) _).alloc (by simp) _).alloc (by simp <;> omega) _
  have zW : W.heap.size = w.heap.size + 3 := by rw [hW]; simp
  have F0 : Hid (OpBlkA w.heap.size W a l.length c de0 none 0) := by
    unfold Hid
    rw [hW]
    refine ⟨?_, ?_, ?_⟩
    · rw [Below.heap_alloc _ _ _ (by simp <;> omega), Below.heap_alloc _ _ _ (by simp)]; exact heap_alloc_new _ _
    · rw [Below.heap_alloc _ _ _ (by simp)]
      have := heap_alloc_new (w.alloc (.cells #[.slice a l.length c] 33)) (.cells #[.int .i64 0, .string ⟨#[]⟩, .string ⟨#[]⟩, .slice none 0 0] 78)
      simpa using this
    · have := heap_alloc_new ((w.alloc (.cells #[.slice a l.length c] 33)).alloc (.cells #[.int .i64 0, .string ⟨#[]⟩, .string ⟨#[]⟩, .slice none 0 0] 78)) (.cells #[.int .i64 0, .string ⟨#[]⟩, .string ⟨#[]⟩, .slice none 0 0] 78)
      simpa [de0, Sels.len] using this
  clear hW
  go_loopw [5, 6] (fun n i w' => ∃ (k m : Nat) (x : De) (a3 : Option Addr) (c3 : Nat), k ≤ l.length ∧ i = .int .i64 k ∧ n = .int .i64 (m : Int) ∧ m ≤ k ∧ Hid (m = opsN (l.take k)) ∧ Hid ((frsOf (l.take k)).length + opsN (l.take k) = k) ∧ Hid (x = opL (l.take k)) ∧ Hid (SelRow 0 w.heap.size w a3 x.sels) ∧ Below w.heap.size w w' ∧ w.heap.size + 3 ≤ w'.heap.size ∧ Hid (OpBlkA w.heap.size w' a l.length c x a3 c3)) (fun _ i _ => l.length - (intOf i).toNat)
  case atStart => exact ⟨0, 0, de0, none, 0, by omega, rfl, rfl, by omega, rfl, rfl, rfl, .inl rfl, B0, by omega, F0⟩
  case round =>
    obtain ⟨k, m, x, a9, c9, hk, rfl, rfl, hmk, HM, HS, HX, HXR, hb, hz, HO⟩ := hrel
    obtain ⟨ob1, ob2, ob3⟩ := HO.out
    have ks := row_cell ob1 0
    have q1 := fun o => row_cell ob2 o
    have q2 := fun o => row_frozen ob2 o
    have q3 := fun o => row_cell ob3 o
    have q4 := fun o => row_frozen ob3 o
    clear ob1 ob2 ob3
    by_cases hlt : k < l.length
    case neg =>
      obtain rfl : k = l.length := by omega
      have hM := HM.out
      have hS := HS.out
      have hX := HX.out
      rw [List.take_length] at hM hS hX
      have HNS : Hid (¬ (frsOf l).length + opsN l < l.length) := by unfold Hid; omega
      have HM9 : Hid (m = opsN l) := hM
      have HX9 : Hid (x = opL l) := hX
      have HBW : Hid _ := hb
      clear hM hS hX HM HS HX hb
      by_cases h0 : m = 0
      · have HN : Hid (OpQ l de0 5) := .inr ⟨HNS.out, .inl ⟨by rw [← HM9.out]; exact h0, rfl, rfl⟩⟩
        subst h0
        go_wp2_with fail
        refine bodyPost_ret (v := .tuple #[deV de0 none 0, .int .i64 5]) (by simp [results, Tryz.results41, go_sem, q1, deV, de0, Sels.len]) rfl ⟨⟨_, _, _, _, rfl, HN.out, .inl rfl⟩, ?_⟩
        repeat (first | exact HBW.out | refine Below.setCell ?_ (by first | omega | (simp <;> omega)) _)
      have h0' : ((m : Int) == 0) = false := by simp; omega
      by_cases h1 : 1 < m
      · have HN : Hid (OpQ l de0 6) := .inr ⟨HNS.out, .inr (.inl ⟨by rw [← HM9.out]; exact h1, rfl, rfl⟩)⟩
        go_wp2_with fail
        refine bodyPost_ret (v := .tuple #[deV de0 none 0, .int .i64 6]) (by simp [results, Tryz.results41, go_sem, q1, deV, de0, Sels.len]) rfl ⟨⟨_, _, _, _, rfl, HN.out, .inl rfl⟩, ?_⟩
        repeat (first | exact HBW.out | refine Below.setCell ?_ (by first | omega | (simp <;> omega)) _)
      have HN : Hid (OpQ l x 0) := .inr ⟨HNS.out, .inr (.inr ⟨by rw [← HM9.out]; omega, HX9.out, rfl⟩)⟩
      go_wp2_with fail
      refine bodyPost_ret (v := .tuple #[deV x a9 c9, .int .i64 0]) (by simp [results, Tryz.results41, go_sem, q1, deV]) rfl ⟨⟨_, _, _, _, rfl, HN.out, HXR.out⟩, ?_⟩
      repeat (first | exact HBW.out | refine Below.setCell ?_ (by first | omega | (simp <;> omega)) _)
    obtain ⟨b, o, a3, c3, ha, _, hbl, d0, d1, d2, d3, r3⟩ := DeRow.cells HR.out k hlt
    subst ha
    have e0 := (hb.cell (p := ⟨b, o + k * 4, none⟩) hbl).trans d0
    have e1 := (hb.cell (p := ⟨b, o + k * 4 + 1, none⟩) hbl).trans d1
    have e2 := (hb.cell (p := ⟨b, o + k * 4 + 2, none⟩) hbl).trans d2
    have e3 := (hb.cell (p := ⟨b, o + k * 4 + 3, none⟩) hbl).trans d3
    have R3 : Hid (SelRow 0 w.heap.size w a3 l[k].sels) := r3
    have HBW : Hid (Below w.heap.size w wr) := hb
    clear d0 d1 d2 d3 r3
    obtain ⟨wo, rfl⟩ : ∃ x, x = wr := ⟨_, rfl⟩
    have kA := fun ob o => ((Below.refl wo.heap.size wo).alloc (Nat.le_refl _) ob).cell (p := ⟨w.heap.size + 2, o, none⟩) (show w.heap.size + 2 < wo.heap.size by omega)
    have jA := fun ob o => ((Below.refl wo.heap.size wo).alloc (Nat.le_refl _) ob).frozen (p := ⟨w.heap.size + 2, o, none⟩) (show w.heap.size + 2 < wo.heap.size by omega)
    cases h3 : (l[k].k == 3) with
    | false =>
      have HM2 : Hid (m + 1 = opsN (l.take (k + 1))) := by have := HM.out; have h9 := opsN_take hlt; rw [h3] at h9; rw [Hid, h9, ← this]; rfl
      have HS2 : Hid ((frsOf (l.take (k + 1))).length + opsN (l.take (k + 1)) = k + 1) := full_next hlt HS.out (.inl h3)
      have HX2 : Hid (l[k] = opL (l.take (k + 1))) := by have h9 := opL_take hlt; rw [h3] at h9; rw [Hid, h9]; rfl
      clear hb HM HS HX
      go_wp2_with fail
      rw [show w.heap.size + 1 + 1 = w.heap.size + 2 from rfl]
      obtain ⟨wA, hwA⟩ : ∃ V, V = wo.alloc (.cells #[.int .i64 l[k].k, .string l[k].nm, .string l[k].on, .slice a3 l[k].sels.len c3] 78) := ⟨_, rfl⟩
      rw [← hwA]
      have HBA : Hid (Below w.heap.size w wA) := by rw [Hid, hwA]; exact HBW.out.alloc (by omega) _
      have zA : w.heap.size + 3 ≤ wA.heap.size := by rw [hwA]; simp; omega
      have HOA : Hid (OpBlkA w.heap.size wA (some ⟨b, o, none⟩) l.length c x a9 c9) := HO.out.keep fun g h1 h2 => by rw [hwA]; exact Below.heap_alloc _ _ _ (by omega)
      clear hwA
      refine ⟨⟨k + 1, m + 1, l[k], a3, c3, by omega, by go_num, by go_num, by omega, HM2, HS2, HX2, R3, ?_, by simpa using zA, ?_⟩, by simp [intOf]; omega⟩
      · exact (((HBA.out.setCell (by simp) _).setCell (by simp) _).setCell (by simp) _).setCell (by simp) _
      · obtain ⟨ob1, ob2, ob3⟩ := HOA.out
        exact ⟨(heap_setZ _ _ _ _ _ (by omega)).trans ((heap_setZ _ _ _ _ _ (by omega)).trans ((heap_setZ _ _ _ _ _ (by omega)).trans ((heap_setZ _ _ _ _ _ (by omega)).trans ob1))), (heap_setZ _ _ _ _ _ (by omega)).trans ((heap_setZ _ _ _ _ _ (by omega)).trans ((heap_setZ _ _ _ _ _ (by omega)).trans ((heap_setZ _ _ _ _ _ (by omega)).trans ob2))), four_setA ob3⟩
    | true =>
      have HM2 : Hid (m = opsN (l.take (k + 1))) := by have := HM.out; have h9 := opsN_take hlt; rw [h3] at h9; rw [Hid, h9, ← this]; rfl
      have HX2 : Hid (x = opL (l.take (k + 1))) := by have := HX.out; have h9 := opL_take hlt; rw [h3] at h9; rw [Hid, h9, ← this]; rfl
      have HSF : Hid ((l.take k).any (isFr l[k].nm) = false → (frsOf (l.take (k + 1))).length + opsN (l.take (k + 1)) = k + 1) := fun h => full_next hlt HS.out (.inr h)
      have HST : Hid ((l.take k).any (isFr l[k].nm) = true → OpQ l de0 19) := fun h => .inl ⟨short_at hlt h3 h, rfl, rfl⟩
      clear hb HM HS HX
      go_wp2_with fail
      obtain ⟨wa, hwa⟩ : ∃ W, W = wo.alloc (.cells #[.int .i64 l[k].k, .string l[k].nm, .string l[k].on, .slice a3 l[k].sels.len c3] 78) := ⟨_, rfl⟩
      rw [← hwa]
      have za : wa.heap.size = wo.heap.size + 1 := by rw [hwa]; simp
      have ba : Below wo.heap.size wo wa := by rw [hwa]; exact (Below.refl _ _).alloc (Nat.le_refl _) _
      have na : wa.cell? ⟨wo.heap.size, 1, none⟩ = some (.string l[k].nm) := by rw [hwa]; exact row_cell (heap_alloc_new _ _) 1
      have HOa : Hid (OpBlkA w.heap.size wa (some ⟨b, o, none⟩) l.length c x a9 c9) := HO.out.keep fun g h1 h2 => ba.block g (by omega)
      have Ba : Hid (Below w.heap.size w wa) := HBW.out.trans (ba.mono (by omega))
      have zwa : w.heap.size + 4 ≤ wa.heap.size := by omega
      clear hwa ba ks q1 q2 q3 q4 kA jA e0 e1 e2 e3 HO HBW
      go_loopw [8] (fun i w' => ∃ (j : Nat), j ≤ k ∧ i = .int .i64 j ∧ Below wa.heap.size wa w' ∧ Hid (∀ y ∈ l.take j, isFr l[k].nm y = false)) (fun i _ => k - (intOf i).toNat)
      case atStart => exact ⟨0, by omega, rfl, Below.refl _ _, by simp [Hid]⟩
      case round =>
        obtain ⟨j, hj, rfl, hbj, HA⟩ := hrel
        have hbjz := hbj.size
        have HOj : Hid (OpBlkA w.heap.size wr (some ⟨b, o, none⟩) l.length c x a9 c9) := HOa.out.keep fun g h1 h2 => hbj.block g (by omega)
        have Bj : Hid (Below w.heap.size w wr) := Ba.out.trans (hbj.mono (by omega))
        by_cases hjk : j < k
        case neg =>
          have HS2 : Hid ((frsOf (l.take (k + 1))).length + opsN (l.take (k + 1)) = k + 1) := HSF.out (by
            have h := HA.out
            rw [show j = k by omega] at h
            rw [List.any_eq_false]
            intro y hy; rw [h y hy]; simp)
          have hsz9 : w.heap.size + 3 ≤ wr.heap.size := by omega
          clear hbj
          go_wp2_with fail
          exact ⟨⟨k + 1, m, x, a9, c9, by omega, by go_num, rfl, by omega, HM2, HS2, HX2, HXR, Bj.out, hsz9, HOj⟩, by simp [intOf]; omega⟩
        have hjl : j < l.length := by omega
        obtain ⟨b', o', a4, c4, ha', _, hbl', d0, d1, d2, d3, r4⟩ := DeRow.cells HR.out j hjl
        simp only [Option.some.injEq, Addr.mk.injEq, and_true] at ha'
        obtain ⟨rfl, rfl⟩ := ha'
        have e0 := (Bj.out.cell (p := ⟨b, o + j * 4, none⟩) hbl').trans d0
        have e1 := (Bj.out.cell (p := ⟨b, o + j * 4 + 1, none⟩) hbl').trans d1
        have nj : wr.cell? ⟨wo.heap.size, 1, none⟩ = some (.string l[k].nm) := (hbj.cell (p := ⟨wo.heap.size, 1, none⟩) (show wo.heap.size < wa.heap.size by omega)).trans na
        obtain ⟨ob1, ob2, ob3⟩ := HOj.out
        have ks := row_cell ob1 0
        have q1 := fun o => row_cell ob2 o
        have q2 := fun o => row_frozen ob2 o
        have HBJ : Hid _ := hbj
        clear d0 d1 d2 d3 r4 hbj ob1 ob2 ob3
        cases h4 : (l[j].k == 3) with
        | false =>
          have HF : Hid (isFr l[k].nm l[j] = false) := by unfold Hid isFr; rw [h4]; rfl
          go_wp2_with fail
          go_quiet (fail)
          go_wp2_with fail
          go_roundw
          case rel => exact ⟨j + 1, by omega, by go_num, HBJ.out.trans (by exact ⟨rfl, rfl, rfl, Nat.le_refl _, fun _ _ => rfl⟩), isFr_take hjl HA.out HF.out⟩
          case measure => simp [intOf]; omega
        | true =>
        cases h5 : (l[j].nm.toList == l[k].nm.toList) with
        | false =>
          have HF : Hid (isFr l[k].nm l[j] = false) := by unfold Hid isFr; rw [h4, h5]; rfl
          go_wp2_with fail
          go_quiet (fail)
          go_wp2_with fail
          go_roundw
          case rel => exact ⟨j + 1, by omega, by go_num, HBJ.out.trans (by exact ⟨rfl, rfl, rfl, Nat.le_refl _, fun _ _ => rfl⟩), isFr_take hjl HA.out HF.out⟩
          case measure => simp [intOf]; omega
        | true =>
        have HN : Hid (OpQ l de0 19) := HST.out (by
          rw [List.any_eq_true]
          refine ⟨l[j], ?_, by unfold isFr; rw [h4, h5]; rfl⟩
          rw [List.mem_take_iff_getElem]
          exact ⟨j, by omega, rfl⟩)
        go_wp2_with fail
        go_quiet (fail)
        go_wp2_with fail
        refine bodyPost_ret (v := .tuple #[deV de0 none 0, .int .i64 19]) (by simp [results, Tryz.results41, go_sem, q1, deV, de0, Sels.len]) rfl ⟨⟨_, _, _, _, rfl, HN.out, .inl rfl⟩, ?_⟩
        repeat (first | exact Bj.out | exact Bj.out.trans (by exact ⟨rfl, rfl, rfl, Nat.le_refl _, fun _ _ => rfl⟩) | refine Below.setCell ?_ (by first | omega | (simp <;> omega)) _)

end Go.Proofs.YtkjndghkimnjeaaGreat
