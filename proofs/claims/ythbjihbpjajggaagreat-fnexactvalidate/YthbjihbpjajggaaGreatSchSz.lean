/- What the law counts of them: it ends, and what is not too great is bounded in all its parts. -/
import Derived.Test.YthbjihbpjajggaaGreatVaMerges
import Derived.Test.YthbjihbpjajggaaGreatVaCycTwo
import Derived.Test.YthbjihbpjajggaaGreatVaLimThree
import Derived.Test.YthbjihbpjajggaaGreatVaGrp
import Derived.Test.YthbjihbpjajggaaGreatDocSpecOK
import Derived.Test.YthbjihbpjajggaaGreatDocOpAny
import Derived.Test.YthbjihbpjajggaaGreatGNames
namespace Go.Proofs.YthbjihbpjajggaaGreat
open Go.ChangeShapes Go.WideShapes Go.ChangeAt Go.RowKit Go.Maps
set_option linter.unusedVariables false
set_option maxHeartbeats 4000000 in
set_option maxRecDepth 40000 in
theorem merge_fault (a : Option Addr) (c : Nat) (l : List De) (w : World) (hr : DeRow 0 w.heap.size w a l) (hb : DefsBd 1048576 l) (hex : ∀ x ∈ l, ∃ n, Ex l (toL x.sels) n ∧ n ≤ 400) :
    Calls Tryz.prog 27 #[.agg #[.slice a l.length c]] w fun e w' => (∃ y, e = .returned (.int .i64 y) ∧ MrgC l y) ∧ Below w.heap.size w w' := by
  obtain ⟨V, hV⟩ : ∃ V, V = w.alloc (.cells #[.slice a l.length c] 38) := ⟨_, rfl⟩
  have B0 : Below w.heap.size w V := by rw [hV]; exact (Below.refl _ _).alloc (Nat.le_refl _) _
  have c0 : V.heap[w.heap.size]? = some (.cells #[.slice a l.length c] 38 (0, 0)) := by rw [hV]; exact heap_alloc_new _ _
  have z0 := (Array.getElem?_eq_some_iff.1 c0).1
  have HR : Hid (DeRow 0 V.heap.size V a l) := DeRow.up hr B0
  have HB : Hid (DefsBd 1048576 l) := hb
  have HEX : Hid (∀ x ∈ l, ∃ n, Ex l (toL x.sels) n ∧ n ≤ 400) := hex
  have HB0 : Hid (Below w.heap.size w V) := B0
  have HC0 : Hid _ := c0
  have hll : l.length ≤ 1048576 := hb.1
  have x0 := fun o => row_cell c0 o
  clear hr hb c0 B0 hex
  go_enter Tryz.func27, Tryz.ntmps27
  go_upto_region 1 with fail
  rw [← hV]
  clear hV
  go_wp2_with (first | (go_at_call 55; revert hll) | fail)
  intro hll
  refine (frs_of a c l V HR.out HB.out).mono ?_
  rintro e w1 ⟨B, rfl, hB, hF, bq⟩
  have HF : Hid (FrHeld V w1 B (frsOf l)) := hF
  have Q1 : Hid (Below V.heap.size V w1) := bq
  have x1 := fun o => row_cell ((bq.block _ z0).trans HC0.out) o
  have hBl := hF.lt
  clear hF bq x0
  go_wp2_with fail
  go_loopw [11] (fun i w' => ∃ (k : Nat), k ≤ l.length ∧ i = .int .i64 k ∧ Hid (Below w1.heap.size w1 w') ∧ Hid (∀ x ∈ l.take k, MOk l (toL x.sels))) (fun i _ => l.length - (intOf i).toNat)
  case atStart => exact ⟨0, Nat.zero_le _, rfl, Below.refl _ _, fun x hx => by simp at hx⟩
  case round =>
    obtain ⟨k, hk, rfl, HBW, HT⟩ := hrel
    obtain ⟨wo, rfl⟩ : ∃ z, z = wr := ⟨_, rfl⟩
    have GV : Hid (Below V.heap.size V wo) := Q1.out.trans (HBW.out.mono Q1.out.size)
    have GB : Hid (Below w.heap.size w wo) := HB0.out.trans (GV.out.mono HB0.out.size)
    by_cases hlt : k < l.length
    case neg =>
      have hlt' : ¬ (k : Int) < l.length := by omega
      have HE : Hid (MrgC l 0) := .inr ⟨rfl, by have := HT.out; rwa [List.take_of_length_le (by omega)] at this⟩
      clear HT
      go_wp2_with fail
      go_ret
      exact ⟨⟨0, rfl, HE.out⟩, GB.out⟩
    have hlt' : (k : Int) < l.length := by omega
    obtain ⟨b, o, a3, c3, ha, _, hbl, d0, d1, d2, d3, r3⟩ := DeRow.cells HR.out k hlt
    subst ha
    replace d0 := (GV.out.cell (p := ⟨b, o + k * 4, none⟩) hbl).trans d0
    replace d1 := (GV.out.cell (p := ⟨b, o + k * 4 + 1, none⟩) hbl).trans d1
    replace d2 := (GV.out.cell (p := ⟨b, o + k * 4 + 2, none⟩) hbl).trans d2
    replace d3 := (GV.out.cell (p := ⟨b, o + k * 4 + 3, none⟩) hbl).trans d3
    have HR3 : Hid (SelRow 0 V.heap.size V a3 l[k].sels) := r3
    have hm := List.getElem_mem hlt
    have HXB : Hid (DeBd 1048576 l[k]) := HB.out.2 _ hm
    obtain ⟨n, hen, hn4⟩ := HEX.out _ hm
    have HEN : Hid (Ex l (toL l[k].sels) n) := hen
    have HNX : Hid (MOk l (toL l[k].sels) → ∀ x ∈ l.take (k + 1), MOk l (toL x.sels)) := fun h x hx => by
      rw [List.take_succ_eq_append_getElem hlt] at hx
      rcases List.mem_append.1 hx with hx | hx
      · exact HT.out x hx
      · simp only [List.mem_singleton] at hx; subst hx; exact h
    have HBD : Hid (¬ MOk l (toL l[k].sels) → MrgC l 15) := fun h => .inl ⟨rfl, fun hc => h (hc _ hm)⟩
    clear r3 HT hm hen
    obtain ⟨x, hx⟩ : ∃ x, x = l[k] := ⟨_, rfl⟩
    rw [← hx] at d0 d1 d2 d3 HR3 HXB HBD HNX HEN
    clear hx
    obtain ⟨U, hU⟩ : ∃ U, U = wo.alloc (.cells #[.int .i64 x.k, .string x.nm, .string x.on, .slice a3 x.sels.len c3] 77) := ⟨_, rfl⟩
    have BU : Below wo.heap.size wo U := by rw [hU]; exact (Below.refl _ _).alloc (Nat.le_refl _) _
    have cu : U.heap[wo.heap.size]? = some (.cells #[.int .i64 x.k, .string x.nm, .string x.on, .slice a3 x.sels.len c3] 77 (0, 0)) := by rw [hU]; exact heap_alloc_new _ _
    have y0 := fun o => row_cell cu o
    have HVU : Hid (Below V.heap.size V U) := GV.out.trans (BU.mono GV.out.size)
    have HWU : Hid (Below w1.heap.size w1 U) := HBW.out.trans (BU.mono HBW.out.size)
    have hq := merges_of V w1 B l HB.out HF.out Q1.out n hn4 (toL x.sels) a3 c3 U HEN.out (SelRow.fr2 HR3.out HVU.out) (SelsBd.lb HXB.out.2.2.2 HXB.out.2.2.1) HWU.out
    rw [toL_len] at hq
    have HQ : Hid _ := hq
    clear hq BU cu
    go_upto_region 5 with fail
    rw [← hU]
    clear hU d0 d1 d2 d3
    go_wp2_with fail
    refine Calls.mono HQ.out ?_
    rintro e w2 ⟨⟨bb, rfl, hbb⟩, b2⟩
    have BW2 : Hid (Below w1.heap.size w1 w2) := HWU.out.trans (b2.mono HWU.out.size)
    have GB2 : Hid (Below w.heap.size w w2) := HB0.out.trans ((Q1.out.trans (BW2.out.mono Q1.out.size)).mono HB0.out.size)
    clear b2 y0 HQ
    cases bb with
    | true =>
      have HT2 : Hid _ := HNX.out (hbb.1 rfl)
      clear hbb
      go_wp2_with fail
      exact ⟨⟨k + 1, by omega, by go_num, BW2, HT2⟩, by simp [intOf]; omega⟩
    | false =>
      have HE : Hid (MrgC l 15) := HBD.out fun h => by have := hbb.2 h; cases this
      clear hbb
      go_wp2_with fail
      go_ret
      exact ⟨⟨15, rfl, HE.out⟩, GB2.out⟩
end Go.Proofs.YthbjihbpjajggaaGreat
namespace Go.Proofs.YthbjihbpjajggaaGreat
open Go.ChangeShapes Go.WideShapes Go.ChangeAt Go.RowKit Go.Maps
set_option linter.unusedVariables false

/-- The first of n codes that is not 0, or 0. -/
def FsR (R : Nat → Int → Prop) (n : Nat) (y : Int) : Prop := (y = 0 ∧ ∀ j, j < n → R j 0) ∨ (y ≠ 0 ∧ ∃ i, i < n ∧ R i y ∧ ∀ j, j < i → R j 0)
set_option maxHeartbeats 2000000 in
set_option maxRecDepth 40000 in
theorem first_fault (dv : Value) (hdv : ∃ a n c, dv = .agg #[.slice a n c]) (g : Nat → Nat) (cb : Nat → Array Value) (n : Nat) (hn : n ≤ 1000) (R : Nat → Int → Prop) (b c : Nat) (w : World)
    (hrow : ∀ i, i < n → w.cell? ⟨b, i, none⟩ = some (.func (.func (g i)) #[] (cb i))) (hb : b < w.heap.size)
    (eg : ∀ i, i < n → ∀ args w, (callFunc (g i) args).run Tryz.prog w = .ok (.enter (g i) args) w)
    (hc : ∀ i, i < n → (∀ j, j < i → R j 0) → ∀ W, Below w.heap.size w W → Calls Tryz.prog (g i) (#[dv] ++ cb i) W fun e w' => (∃ y, e = .returned (.int .i64 y) ∧ R i y) ∧ Below W.heap.size W w') :
    Calls Tryz.prog 23 #[dv, .slice (some ⟨b, 0, none⟩) n c] w fun e w' => (∃ y, e = .returned (.int .i64 y) ∧ FsR R n y) ∧ Below w.heap.size w w' := by
  have HROW : Hid _ := hrow
  have HC : Hid _ := hc
  have HEG : Hid _ := eg
  obtain ⟨aD, nD, cD, rfl⟩ := hdv
  clear hrow hc eg
  go_enter Tryz.func23, Tryz.ntmps23
  go_wp2_with fail
  obtain ⟨V, hV⟩ : ∃ V, V = w.alloc (.cells #[.slice aD nD cD] 38) := ⟨_, rfl⟩
  rw [← hV]
  have BV : Hid (Below w.heap.size w V) := by rw [Hid, hV]; exact (Below.refl _ _).alloc (Nat.le_refl _) _
  have cV : V.heap[w.heap.size]? = some (.cells #[.slice aD nD cD] 38 (0, 0)) := by rw [hV]; exact heap_alloc_new _ _
  have zV : w.heap.size < V.heap.size := by rw [hV]; simp
  have CV : Hid _ := cV
  clear hV cV
  go_loopw [10] (fun i w' => ∃ k : Nat, i = .int .i64 k ∧ k ≤ n ∧ Hid (Below V.heap.size V w') ∧ Hid (∀ j, j < k → R j 0)) (fun i _ => n - (intOf i).toNat)
  case atStart => exact ⟨0, rfl, Nat.zero_le _, Below.refl _ _, fun j hj => absurd hj (Nat.not_lt_zero _)⟩
  case round =>
    obtain ⟨k, rfl, hk, HB, HZ⟩ := hrel
    obtain ⟨wo, rfl⟩ : ∃ z, z = wr := ⟨_, rfl⟩
    have HW : Hid (Below w.heap.size w wo) := BV.out.trans (HB.out.mono (by omega))
    by_cases hlt : k < n
    case neg =>
      have hlt' : ¬ (k : Int) < n := by omega
      obtain rfl : k = n := by omega
      go_wp2_with fail
      go_ret
      exact ⟨⟨0, rfl, .inl ⟨rfl, HZ.out⟩⟩, HW.out⟩
    have hlt' : (k : Int) < n := by omega
    have cr : wo.cell? ⟨b, k, none⟩ = some (.func (.func (g k)) #[] (cb k)) := (HW.out.cell (p := ⟨b, k, none⟩) hb).trans (HROW.out k hlt)
    have cd : wo.cell? ⟨w.heap.size, 0, none⟩ = some (.slice aD nD cD) := row_cell ((HB.out.block _ zV).trans CV.out) 0
    have ek := HEG.out k hlt
    have HK : Hid _ := HC.out k hlt HZ.out wo HW.out
    obtain ⟨gk, hgk⟩ : ∃ z, z = g k := ⟨_, rfl⟩
    obtain ⟨ck, hck⟩ : ∃ z, z = cb k := ⟨_, rfl⟩
    rw [← hgk, ← hck] at HK cr
    rw [← hgk] at ek
    clear hgk hck
    go_wp2_with fail
    refine Calls.mono HK.out ?_
    rintro e w1 ⟨⟨y, rfl, hy⟩, b1⟩
    have HY : Hid (R k y) := hy
    have B1 : Hid (Below w.heap.size w w1) := HW.out.trans (b1.mono HW.out.size)
    have B2 : Hid (Below V.heap.size V w1) := HB.out.trans (b1.mono HB.out.size)
    clear hy b1 HK cr cd
    by_cases hz : y = 0
    · subst hz
      go_wp2_with fail
      refine ⟨⟨k + 1, by go_num, by omega, B2, fun j hj => ?_⟩, by simp [intOf]; omega⟩
      by_cases e : j = k
      · rw [e]; exact HY.out
      · exact HZ.out j (by omega)
    · have hz' : (y != 0) = true := by simp [bne, hz]
      go_wp2_with fail
      go_ret
      exact ⟨⟨y, rfl, .inr ⟨hz, k, hlt, HY.out, HZ.out⟩⟩, B1.out⟩
end Go.Proofs.YthbjihbpjajggaaGreat
namespace Go.Proofs.YthbjihbpjajggaaGreat
open Go.ChangeShapes Go.WideShapes Go.ChangeAt Go.RowKit Go.Maps
set_option linter.unusedVariables false

set_option maxHeartbeats 2000000 in
theorem types_clo (a : Option Addr) (c : Nat) (S : List G.Td) (a' : Option Addr) (c' : Nat) (D : List De) (B : Nat) (w : World) (hS : G.TdRow 0 w.heap.size w a S) (hO : G.OkN (S.map G.Td.nm)) (hB : G.TdsBd 1048576 S) (hD : DeRow 0 w.heap.size w a' D) (hb : DefsBd 1048576 D) (hdoc : docB D = true)
    (hbx : w.heap[B]? = some (.cells #[.slice a S.length c] 34 (0, 0))) :
    Calls Tryz.prog 21 #[.agg #[.slice a' D.length c'], .pointer (some ⟨B, 0, none⟩)] w fun e w' => e = .returned (.int .i64 (docC S D D)) ∧ Below w.heap.size w w' := by
  obtain ⟨V, hV⟩ : ∃ V, V = w.alloc (.cells #[.slice a' D.length c'] 38) := ⟨_, rfl⟩
  have BV : Below w.heap.size w V := by rw [hV]; exact (Below.refl _ _).alloc (Nat.le_refl _) _
  have c0 : V.heap[w.heap.size]? = some (.cells #[.slice a' D.length c'] 38 (0, 0)) := by rw [hV]; exact heap_alloc_new _ _
  have x0 := fun o => row_cell c0 o
  have xB := fun o => row_cell ((BV.block B (Array.getElem?_eq_some_iff.1 hbx).1).trans hbx) o
  obtain ⟨X, HX⟩ : ∃ X, Hid (X = docC S D D) := ⟨_, rfl⟩
  have hq := types_fault a c S a' c' D V (G.TdRow.up hS BV) hO hB (DeRow.up hD BV) hb hdoc
  rw [← HX.out] at hq
  rw [← HX.out]
  have HQ : Hid _ := hq
  have HBV : Hid _ := BV
  clear hS hO hB hD hb hdoc hbx c0 BV hq
  go_enter Tryz.func21, Tryz.ntmps21
  go_upto_region 1 with fail
  rw [← hV]
  clear hV
  go_wp2_with fail
  refine Calls.mono HQ.out ?_
  rintro e w1 ⟨rfl, b1⟩
  have B1 : Hid (Below w.heap.size w w1) := HBV.out.trans (b1.mono HBV.out.size)
  clear b1 x0 xB HQ
  go_wp2_with fail
  go_ret
  exact ⟨rfl, B1.out⟩
/-- The five rules' codes. -/
def VaR (S : List G.Td) (D : List De) : Nat → Int → Prop
  | 0 => fun y => y = opCode D
  | 1 => fun y => y = docC S D D
  | 2 => fun y => CycC D y
  | 3 => fun y => Lims D D y
  | _ => fun y => MrgC D y
def vaG : Nat → Nat
  | 0 => 24
  | 1 => 21
  | 2 => 25
  | 3 => 26
  | _ => 27
def vaC (B : Nat) : Nat → Array Value
  | 1 => #[.pointer (some ⟨B, 0, none⟩)]
  | _ => #[]
theorem FsR.val {S : List G.Td} {D : List De} {y : Int} (h : FsR (VaR S D) 5 y) : ValR S D y := by
  rcases h with ⟨rfl, h⟩ | ⟨hy, i, hi, h1, h2⟩
  · have e0 : 0 = opCode D := h 0 (by omega)
    have e1 : 0 = docC S D D := h 1 (by omega)
    have e2 : CycC D 0 := h 2 (by omega)
    have e3 : Lims D D 0 := h 3 (by omega)
    have e4 : MrgC D 0 := h 4 (by omega)
    have e2' : ¬ Cyc D := by rcases e2 with ⟨h, _⟩ | ⟨_, h⟩; exact absurd h (by decide); exact h
    exact .inr ⟨e0.symm, .inr ⟨e1.symm, .inr ⟨e2', 0, e3, .inr ⟨rfl, e4⟩⟩⟩⟩
  · have hcase : i = 0 ∨ i = 1 ∨ i = 2 ∨ i = 3 ∨ i = 4 := by omega
    rcases hcase with rfl | rfl | rfl | rfl | rfl
    · have e0 : y = opCode D := h1
      exact .inl ⟨by rw [← e0]; exact hy, e0⟩
    · have e0 : 0 = opCode D := h2 0 (by omega)
      have e1 : y = docC S D D := h1
      exact .inr ⟨e0.symm, .inl ⟨by rw [← e1]; exact hy, e1⟩⟩
    · have e0 : 0 = opCode D := h2 0 (by omega)
      have e1 : 0 = docC S D D := h2 1 (by omega)
      have e2 : CycC D y := h1
      rcases e2 with ⟨h, h'⟩ | ⟨h, _⟩
      · exact .inr ⟨e0.symm, .inr ⟨e1.symm, .inl ⟨h', h⟩⟩⟩
      · exact absurd h hy
    · have e0 : 0 = opCode D := h2 0 (by omega)
      have e1 : 0 = docC S D D := h2 1 (by omega)
      have e2 : CycC D 0 := h2 2 (by omega)
      have e3 : Lims D D y := h1
      have e2' : ¬ Cyc D := by rcases e2 with ⟨h, _⟩ | ⟨_, h⟩; exact absurd h (by decide); exact h
      exact .inr ⟨e0.symm, .inr ⟨e1.symm, .inr ⟨e2', y, e3, .inl ⟨hy, rfl⟩⟩⟩⟩
    · have e0 : 0 = opCode D := h2 0 (by omega)
      have e1 : 0 = docC S D D := h2 1 (by omega)
      have e2 : CycC D 0 := h2 2 (by omega)
      have e3 : Lims D D 0 := h2 3 (by omega)
      have e4 : MrgC D y := h1
      have e2' : ¬ Cyc D := by rcases e2 with ⟨h, _⟩ | ⟨_, h⟩; exact absurd h (by decide); exact h
      exact .inr ⟨e0.symm, .inr ⟨e1.symm, .inr ⟨e2', 0, e3, .inr ⟨rfl, e4⟩⟩⟩⟩
theorem vaG_in : ∀ i, i < 5 → ∀ args w, (callFunc (vaG i) args).run Tryz.prog w = .ok (.enter (vaG i) args) w := fun i hi => by
  have hcase : i = 0 ∨ i = 1 ∨ i = 2 ∨ i = 3 ∨ i = 4 := by omega
  rcases hcase with rfl | rfl | rfl | rfl | rfl
  · exact enters_of Tryz.func24 (by kernel_rfl) rfl
  · exact enters_of Tryz.func21 (by kernel_rfl) rfl
  · exact enters_of Tryz.func25 (by kernel_rfl) rfl
  · exact enters_of Tryz.func26 (by kernel_rfl) rfl
  · exact enters_of Tryz.func27 (by kernel_rfl) rfl
theorem va_rules (a : Option Addr) (c : Nat) (S : List G.Td) (a' : Option Addr) (c' : Nat) (D : List De) (B : Nat) (w : World) (hS : G.TdRow 0 w.heap.size w a S) (hO : G.OkN (S.map G.Td.nm)) (hB : G.TdsBd 1048576 S) (hD : DeRow 0 w.heap.size w a' D) (hb : DefsBd 1048576 D) (hdoc : docB D = true)
    (hbx : w.heap[B]? = some (.cells #[.slice a S.length c] 34 (0, 0))) :
    ∀ i, i < 5 → (∀ j, j < i → VaR S D j 0) → ∀ W, Below w.heap.size w W → Calls Tryz.prog (vaG i) (#[.agg #[.slice a' D.length c']] ++ vaC B i) W fun e w' => (∃ y, e = .returned (.int .i64 y) ∧ VaR S D i y) ∧ Below W.heap.size W w' := fun i hi hz W hW => by
  have hcase : i = 0 ∨ i = 1 ∨ i = 2 ∨ i = 3 ∨ i = 4 := by omega
  have hDW := DeRow.up hD hW
  rcases hcase with rfl | rfl | rfl | rfl | rfl
  · refine Calls.mono (impl_opFault a' c' D W hDW hb) ?_
    rintro e w' ⟨rfl, h⟩
    exact ⟨⟨_, rfl, rfl⟩, h⟩
  · refine Calls.mono (types_clo a c S a' c' D B W (G.TdRow.up hS hW) hO hB hDW hb hdoc ((hW.block B (Array.getElem?_eq_some_iff.1 hbx).1).trans hbx)) ?_
    rintro e w' ⟨rfl, h⟩
    exact ⟨⟨_, rfl, rfl⟩, h⟩
  · exact cycle_fault a' c' D W hDW hb
  · exact limits_fault a' c' D W hDW hb
  · have e3 : Lims D D 0 := hz 3 (by omega)
    exact merge_fault a' c' D W hDW hb (e3.ex rfl)
set_option maxHeartbeats 4000000 in
set_option maxRecDepth 40000 in
theorem impl_validate (a : Option Addr) (c : Nat) (S : List G.Td) (a' : Option Addr) (c' : Nat) (D : List De) (w : World) (hS : G.TdRow 0 w.heap.size w a S) (hB : G.TdsBd 1048576 S) (hD : DeRow 0 w.heap.size w a' D) (hb : DefsBd 1048576 D) :
    Calls Tryz.prog 9 #[.agg #[.slice a S.length c], .agg #[.slice a' D.length c']] w fun e w' => SaysC (VlR S D) e ∧ Below w.heap.size w w' := by
  have HS : Hid (∀ W0, Below w.heap.size w W0 → G.TdRow 0 W0.heap.size W0 a S) := fun W0 hB => G.TdRow.up hS hB
  have HB : Hid (G.TdsBd 1048576 S) := hB
  have K1 : Hid (∀ W0, Below w.heap.size w W0 → DeRow 0 W0.heap.size W0 a' D) := fun W0 hB => DeRow.up hD hB
  have HD : Hid (DefsBd 1048576 D) := hb
  clear hS hB hD hb
  go_enter Tryz.func9, Tryz.ntmps9
  go_wp2_with fail
  obtain ⟨W, hW⟩ : ∃ W, W = (w.alloc (.cells #[.slice a S.length c] 34)).alloc (.cells #[.slice a' D.length c'] 38) := ⟨_, rfl⟩
  rw [← hW]
  have zW : W.heap.size = w.heap.size + 2 := by rw [hW]; simp
  have BW : Hid (Below w.heap.size w W) := by rw [hW]; exact ((Below.refl _ _).alloc (Nat.le_refl _) _).alloc (by simp) _
  have A0 : Hid (W.heap[w.heap.size]? = some (.cells #[.slice a S.length c] 34 (0, 0))) := by rw [Hid, hW, Below.heap_alloc _ _ _ (by simp)]; exact heap_alloc_new _ _
  have A1 : Hid (W.heap[w.heap.size + 1]? = some (.cells #[.slice a' D.length c'] 38 (0, 0))) := by
    rw [Hid, hW]
    have := heap_alloc_new (w.alloc (.cells #[.slice a S.length c] 34)) (.cells #[.slice a' D.length c'] 38)
    simpa using this
  clear hW
  refine (G.impl_schema a c S _ (HS.out _ BW.out) HB.out).mono ?_
  rintro e w1 ⟨⟨b, rfl, hbl⟩, hb1⟩
  have z1 := hb1.size
  have Q1 : Hid (Below w.heap.size w w1) := BW.out.trans (hb1.mono (by omega))
  have A01 : Hid (w1.heap[w.heap.size]? = some (.cells #[.slice a S.length c] 34 (0, 0))) := (hb1.block _ (by omega)).trans A0.out
  have A11 : Hid (w1.heap[w.heap.size + 1]? = some (.cells #[.slice a' D.length c'] 38 (0, 0))) := (hb1.block _ (by omega)).trans A1.out
  have c1 := row_cell A11.out 0
  clear hb1
  rcases hbl with ⟨rfl, hp⟩ | ⟨rfl, hp⟩
  case inr =>
    have HN : Hid (VlR S D 0 1) := .inl ⟨hp, rfl, rfl⟩
    clear hp
    go_wp2_with fail
    go_ret2
    exact ⟨⟨_, _, rfl, HN.out⟩, Q1.out⟩
  have HOK : Hid (G.SchOK S) := hp
  clear hp
  go_wp2_with fail
  refine (impl_doc a' c' D _ (K1.out _ Q1.out) HD.out.1 HD.out.2).mono ?_
  rintro e w2 ⟨rfl, hb2⟩
  have z2 := hb2.size
  have Q2 : Hid (Below w.heap.size w w2) := Q1.out.trans (hb2.mono (by omega))
  have A02 : Hid (w2.heap[w.heap.size]? = some (.cells #[.slice a S.length c] 34 (0, 0))) := (hb2.block w.heap.size (by omega)).trans A01.out
  have c21 := row_cell ((hb2.block (w.heap.size + 1) (by omega)).trans A11.out) 0
  clear hb2 c1
  cases hdb : docB D with
  | false =>
    have HN : Hid (VlR S D 0 1) := .inr (.inl ⟨HOK.out, hdb, rfl, rfl⟩)
    clear hdb
    go_wp2_with fail
    go_ret2
    exact ⟨⟨_, _, rfl, HN.out⟩, Q2.out⟩
  | true =>
    have HDB : Hid (docB D = true) := hdb
    clear hdb
    obtain ⟨V, hV⟩ : ∃ V, V = w2.alloc (.cells #[.func (.func 24) #[] #[], .func (.func 21) #[] #[.pointer (some ⟨w.heap.size, 0, none⟩)], .func (.func 25) #[] #[], .func (.func 26) #[] #[], .func (.func 27) #[] #[]] 105) := ⟨_, rfl⟩
    have BV : Below w2.heap.size w2 V := by rw [hV]; exact (Below.refl _ _).alloc (Nat.le_refl _) _
    have cV : V.heap[w2.heap.size]? = some (.cells #[.func (.func 24) #[] #[], .func (.func 21) #[] #[.pointer (some ⟨w.heap.size, 0, none⟩)], .func (.func 25) #[] #[], .func (.func 26) #[] #[], .func (.func 27) #[] #[]] 105 (0, 0)) := by rw [hV]; exact heap_alloc_new _ _
    have QV : Hid (Below w.heap.size w V) := Q2.out.trans (BV.mono (by omega))
    have hq := first_fault (.agg #[.slice a' D.length c']) ⟨_, _, _, rfl⟩ vaG (vaC w.heap.size) 5 (by omega) (VaR S D) w2.heap.size 5 V (fun i hi => by
      have hcase : i = 0 ∨ i = 1 ∨ i = 2 ∨ i = 3 ∨ i = 4 := by omega
      rcases hcase with rfl | rfl | rfl | rfl | rfl <;> exact row_cell cV _) (Array.getElem?_eq_some_iff.1 cV).1 vaG_in (va_rules a c S a' c' D w.heap.size V (HS.out _ QV.out) HOK.out.2.2.2.2.1 HB.out (K1.out _ QV.out) HD.out HDB.out ((BV.block _ (by omega)).trans A02.out))
    have HQ : Hid _ := hq
    clear hq BV cV
    go_wp2_with fail
    rw [← hV]
    clear hV
    refine Calls.mono HQ.out ?_
    rintro e w3 ⟨⟨y, rfl, hy⟩, hb3⟩
    have HN : Hid (VlR S D y 0) := .inr (.inr ⟨HOK.out, HDB.out, hy.val, rfl⟩)
    have Q3 : Hid (Below w.heap.size w w3) := QV.out.trans (hb3.mono QV.out.size)
    clear hb3 c21 hy HQ
    go_wp2_with fail
    go_ret2
    exact ⟨⟨_, _, rfl, HN.out⟩, Q3.out⟩
end Go.Proofs.YthbjihbpjajggaaGreat
namespace Go.Proofs.YthbjihbpjajggaaGreat.G
open Go.ChangeShapes Go.WideShapes Go.ChangeAt Go.RowKit
set_option linter.unusedVariables false

set_option maxHeartbeats 1000000 in
theorem sz_Ag (x : Ag) (n : Int) (w : World) (hb : AgBd maxLen x) (h0 : 0 ≤ n) (h1 : n ≤ 1048576) :
    Calls Tryz.prog 139 #[.agg #[.string x.nm, .bool x.need], .int .i64 n] w fun e w' => ∃ m, e = .returned (.int .i64 m) ∧ Sz n m (AgBd 1048576 x) ∧ Below w.heap.size w w' := by
  have b0 := hb
  unfold AgBd at b0
  have b0' := b0
  unfold maxLen at b0'
  have B0 : Below w.heap.size w (w.alloc (.cells #[.string x.nm, .bool x.need] 203)) := (Below.refl _ _).alloc (Nat.le_refl _) _
  have HB : Hid _ := B0
  clear B0
  by_cases g0 : n - x.nm.size < 0
  · go_enter Tryz.func139, Tryz.ntmps139
    go_wp2_with fail
    go_ret
    exact ⟨-1, rfl, Sz.neg h0, HB.out⟩
  go_enter Tryz.func139, Tryz.ntmps139
  go_wp2_with fail
  go_ret
  exact ⟨_, rfl, ⟨by omega, by omega, fun _ => by unfold AgBd; omega⟩, HB.out⟩
set_option maxHeartbeats 1000000 in
theorem sz_Ags (a : Option Addr) (c : Nat) (l : List Ag) (n : Int) (w : World) (hr : AgRow 0 w.heap.size w a l) (hbd : AgsBd maxLen l) (h0 : 0 ≤ n) (h1 : n ≤ 1048576) :
    Calls Tryz.prog 123 #[.slice a l.length c, .int .i64 n] w fun e w' => ∃ m, e = .returned (.int .i64 m) ∧ Sz n m (AgsBd 1048576 l) ∧ Below w.heap.size w w' := by
  obtain ⟨hl, ht⟩ := hbd
  unfold maxLen at hl
  by_cases hz : n - l.length < 0
  · go_enter Tryz.func123, Tryz.ntmps123
    go_wp2_with fail
    go_ret
    exact ⟨-1, rfl, Sz.neg h0, Below.refl _ _⟩
  · have HR : Hid (AgRow 0 w.heap.size w a l) := hr
    have HT : Hid (∀ x ∈ l, AgBd maxLen x) := ht
    clear hr ht
    go_enter Tryz.func123, Tryz.ntmps123
    go_wp2_with fail
    go_loopw [1, 5] (fun r i w' => ∃ (k : Nat) (m : Int), k ≤ l.length ∧ i = .int .i64 k ∧ r = .int .i64 m ∧ 0 ≤ m ∧ m ≤ n ∧ Below w.heap.size w w' ∧ Hid (∀ x ∈ l.take k, AgBd 1048576 x)) (fun _ i _ => l.length - (intOf i).toNat)
    case atStart => exact ⟨0, _, by omega, rfl, rfl, by omega, by omega, Below.refl _ _, by simp [Hid]⟩
    case round =>
      rename_i wr
      obtain ⟨k, m, hk, rfl, rfl, hm0, hm1, hb, HK⟩ := hrel
      by_cases hlt : k < l.length
      · obtain ⟨b, o, ha, _, hbl, d0, d1⟩ := AgRow.cells (AgRow.keep HR.out (agree hb (Nat.le_refl _))) k hlt
        subst ha
        have HX : Hid (AgBd maxLen l[k]) := HT.out l[k] (List.getElem_mem hlt)
        go_wp2_with fail
        refine (sz_Ag l[k] m _ HX.out hm0 (by omega)).mono ?_
        rintro e w1 ⟨m1, rfl, hm, hb1⟩
        have HM : Hid (Sz m m1 (AgBd 1048576 l[k])) := hm
        clear hm d0 d1
        by_cases hneg : m1 < 0
        · go_wp2_with fail
          go_ret
          exact ⟨-1, rfl, Sz.neg h0, hb.trans (hb1.mono hb.size)⟩
        · go_wp2_with fail
          go_roundw
          case rel => exact ⟨k + 1, m1, by omega, by go_num, rfl, by omega, by have := HM.out.1; omega, hb.trans (hb1.mono hb.size), all_take hlt HK.out (HM.out.2.2 (by omega))⟩
          case measure => simp [intOf]; omega
      · go_wp2_with fail
        go_ret
        rw [List.take_of_length_le (by omega)] at HK
        exact ⟨m, rfl, ⟨hm1, by omega, fun _ => ⟨by omega, HK.out⟩⟩, hb⟩
set_option maxHeartbeats 1000000 in
theorem sz_Fd (x : Fd) (a3 : Option Addr) (c3 : Nat) (n : Int) (w : World) (r3 : AgRow 0 w.heap.size w a3 x.args) (hb : FdBd maxLen x) (h0 : 0 ≤ n) (h1 : n ≤ 1048576) :
    Calls Tryz.prog 98 #[.agg #[.string x.nm, .slice a3 x.args.length c3, .string x.ty, .bool x.ls, .bool x.bg], .int .i64 n] w fun e w' => ∃ m, e = .returned (.int .i64 m) ∧ Sz n m (FdBd 1048576 x) ∧ Below w.heap.size w w' := by
  obtain ⟨b0, b1, b2⟩ := hb
  have b0' := b0
  unfold maxLen at b0'
  have b2' := b2
  unfold maxLen at b2'
  have HS : Hid (AgsBd maxLen x.args) := b1
  have B0 : Below w.heap.size w (w.alloc (.cells #[.string x.nm, .slice a3 x.args.length c3, .string x.ty, .bool x.ls, .bool x.bg] 155)) := (Below.refl _ _).alloc (Nat.le_refl _) _
  have R3 : Hid (AgRow 0 _ _ a3 x.args) := AgRow.up r3 B0
  have HB : Hid _ := B0
  clear B0 r3 b1
  by_cases g0 : n - x.nm.size < 0
  · go_enter Tryz.func98, Tryz.ntmps98
    go_wp2_with fail
    go_ret
    exact ⟨-1, rfl, Sz.neg h0, HB.out⟩
  go_enter Tryz.func98, Tryz.ntmps98
  go_wp2_with fail
  refine (sz_Ags a3 c3 x.args _ _ R3.out HS.out (by omega) (by omega)).mono ?_
  rintro e w3 ⟨m3, rfl, hm, hb3⟩
  have M3 : Hid _ := hm
  clear hm
  have q3 : Below w.heap.size w w3 := HB.out.trans (hb3.mono (by simp))
  have u3 := M3.out.1
  have k3 := fun o => hb3.cell (p := ⟨w.heap.size, o, none⟩) (by simp)
  by_cases n3 : m3 < 0
  · go_wp2_with fail
    go_ret
    exact ⟨-1, rfl, Sz.neg h0, q3⟩
  by_cases g1 : m3 - x.ty.size < 0
  · go_wp2_with fail
    go_ret
    exact ⟨-1, rfl, Sz.neg h0, q3⟩
  go_wp2_with fail
  go_ret
  have v3 := M3.out.2.2 (by omega)
  exact ⟨_, rfl, ⟨by omega, by omega, fun _ => ⟨by omega, v3, by omega⟩⟩, q3⟩
set_option maxHeartbeats 1000000 in
theorem sz_Fds (a : Option Addr) (c : Nat) (l : List Fd) (n : Int) (w : World) (hr : FdRow 0 w.heap.size w a l) (hbd : FdsBd maxLen l) (h0 : 0 ≤ n) (h1 : n ≤ 1048576) :
    Calls Tryz.prog 61 #[.slice a l.length c, .int .i64 n] w fun e w' => ∃ m, e = .returned (.int .i64 m) ∧ Sz n m (FdsBd 1048576 l) ∧ Below w.heap.size w w' := by
  obtain ⟨hl, ht⟩ := hbd
  unfold maxLen at hl
  by_cases hz : n - l.length < 0
  · go_enter Tryz.func61, Tryz.ntmps61
    go_wp2_with fail
    go_ret
    exact ⟨-1, rfl, Sz.neg h0, Below.refl _ _⟩
  · have HR : Hid (FdRow 0 w.heap.size w a l) := hr
    have HT : Hid (∀ x ∈ l, FdBd maxLen x) := ht
    clear hr ht
    go_enter Tryz.func61, Tryz.ntmps61
    go_wp2_with fail
    go_loopw [1, 5] (fun r i w' => ∃ (k : Nat) (m : Int), k ≤ l.length ∧ i = .int .i64 k ∧ r = .int .i64 m ∧ 0 ≤ m ∧ m ≤ n ∧ Below w.heap.size w w' ∧ Hid (∀ x ∈ l.take k, FdBd 1048576 x)) (fun _ i _ => l.length - (intOf i).toNat)
    case atStart => exact ⟨0, _, by omega, rfl, rfl, by omega, by omega, Below.refl _ _, by simp [Hid]⟩
    case round =>
      rename_i wr
      obtain ⟨k, m, hk, rfl, rfl, hm0, hm1, hb, HK⟩ := hrel
      by_cases hlt : k < l.length
      · obtain ⟨b, o, a3, c3, ha, _, hbl, d0, d1, d2, d3, d4, r3⟩ := FdRow.cells (FdRow.keep HR.out (agree hb (Nat.le_refl _))) k hlt
        subst ha
        have HX : Hid (FdBd maxLen l[k]) := HT.out l[k] (List.getElem_mem hlt)
        have R3 : Hid (AgRow 0 wr.heap.size wr a3 l[k].args) := AgRow.wide r3 (Nat.le_refl _) hb.size
        clear r3
        go_wp2_with fail
        refine (sz_Fd l[k] a3 c3 m _ R3.out HX.out hm0 (by omega)).mono ?_
        rintro e w1 ⟨m1, rfl, hm, hb1⟩
        have HM : Hid (Sz m m1 (FdBd 1048576 l[k])) := hm
        clear hm d0 d1 d2 d3 d4
        by_cases hneg : m1 < 0
        · go_wp2_with fail
          go_ret
          exact ⟨-1, rfl, Sz.neg h0, hb.trans (hb1.mono hb.size)⟩
        · go_wp2_with fail
          go_roundw
          case rel => exact ⟨k + 1, m1, by omega, by go_num, rfl, by omega, by have := HM.out.1; omega, hb.trans (hb1.mono hb.size), all_take hlt HK.out (HM.out.2.2 (by omega))⟩
          case measure => simp [intOf]; omega
      · go_wp2_with fail
        go_ret
        rw [List.take_of_length_le (by omega)] at HK
        exact ⟨m, rfl, ⟨hm1, by omega, fun _ => ⟨by omega, HK.out⟩⟩, hb⟩
set_option maxHeartbeats 1000000 in
theorem sz_Td (x : Td) (a3 : Option Addr) (c3 : Nat) (n : Int) (w : World) (r3 : FdRow 0 w.heap.size w a3 x.fs) (hb : TdBd maxLen x) (h0 : 0 ≤ n) (h1 : n ≤ 1048576) :
    Calls Tryz.prog 30 #[.agg #[.string x.nm, .slice a3 x.fs.length c3], .int .i64 n] w fun e w' => ∃ m, e = .returned (.int .i64 m) ∧ Sz n m (TdBd 1048576 x) ∧ Below w.heap.size w w' := by
  obtain ⟨b0, b1⟩ := hb
  have b0' := b0
  unfold maxLen at b0'
  have HS : Hid (FdsBd maxLen x.fs) := b1
  have B0 : Below w.heap.size w (w.alloc (.cells #[.string x.nm, .slice a3 x.fs.length c3] 57)) := (Below.refl _ _).alloc (Nat.le_refl _) _
  have R3 : Hid (FdRow 0 _ _ a3 x.fs) := FdRow.up r3 B0
  have HB : Hid _ := B0
  clear B0 r3 b1
  by_cases g0 : n - x.nm.size < 0
  · go_enter Tryz.func30, Tryz.ntmps30
    go_wp2_with fail
    go_ret
    exact ⟨-1, rfl, Sz.neg h0, HB.out⟩
  go_enter Tryz.func30, Tryz.ntmps30
  go_wp2_with fail
  refine (sz_Fds a3 c3 x.fs _ _ R3.out HS.out (by omega) (by omega)).mono ?_
  rintro e w3 ⟨m3, rfl, hm, hb3⟩
  have M3 : Hid _ := hm
  clear hm
  have q3 : Below w.heap.size w w3 := HB.out.trans (hb3.mono (by simp))
  have u3 := M3.out.1
  have k3 := fun o => hb3.cell (p := ⟨w.heap.size, o, none⟩) (by simp)
  by_cases n3 : m3 < 0
  · go_wp2_with fail
    go_ret
    exact ⟨-1, rfl, Sz.neg h0, q3⟩
  go_wp2_with fail
  go_ret
  have v3 := M3.out.2.2 (by omega)
  exact ⟨_, rfl, ⟨by omega, by omega, fun _ => ⟨by omega, v3⟩⟩, q3⟩
set_option maxHeartbeats 1000000 in
theorem sz_Tds (a : Option Addr) (c : Nat) (l : List Td) (n : Int) (w : World) (hr : TdRow 0 w.heap.size w a l) (hbd : TdsBd maxLen l) (h0 : 0 ≤ n) (h1 : n ≤ 1048576) :
    Calls Tryz.prog 12 #[.slice a l.length c, .int .i64 n] w fun e w' => ∃ m, e = .returned (.int .i64 m) ∧ Sz n m (TdsBd 1048576 l) ∧ Below w.heap.size w w' := by
  obtain ⟨hl, ht⟩ := hbd
  unfold maxLen at hl
  by_cases hz : n - l.length < 0
  · go_enter Tryz.func12, Tryz.ntmps12
    go_wp2_with fail
    go_ret
    exact ⟨-1, rfl, Sz.neg h0, Below.refl _ _⟩
  · have HR : Hid (TdRow 0 w.heap.size w a l) := hr
    have HT : Hid (∀ x ∈ l, TdBd maxLen x) := ht
    clear hr ht
    go_enter Tryz.func12, Tryz.ntmps12
    go_wp2_with fail
    go_loopw [1, 5] (fun r i w' => ∃ (k : Nat) (m : Int), k ≤ l.length ∧ i = .int .i64 k ∧ r = .int .i64 m ∧ 0 ≤ m ∧ m ≤ n ∧ Below w.heap.size w w' ∧ Hid (∀ x ∈ l.take k, TdBd 1048576 x)) (fun _ i _ => l.length - (intOf i).toNat)
    case atStart => exact ⟨0, _, by omega, rfl, rfl, by omega, by omega, Below.refl _ _, by simp [Hid]⟩
    case round =>
      rename_i wr
      obtain ⟨k, m, hk, rfl, rfl, hm0, hm1, hb, HK⟩ := hrel
      by_cases hlt : k < l.length
      · obtain ⟨b, o, a3, c3, ha, _, hbl, d0, d1, r3⟩ := TdRow.cells (TdRow.keep HR.out (agree hb (Nat.le_refl _))) k hlt
        subst ha
        have HX : Hid (TdBd maxLen l[k]) := HT.out l[k] (List.getElem_mem hlt)
        have R3 : Hid (FdRow 0 wr.heap.size wr a3 l[k].fs) := FdRow.wide r3 (Nat.le_refl _) hb.size
        clear r3
        go_wp2_with fail
        refine (sz_Td l[k] a3 c3 m _ R3.out HX.out hm0 (by omega)).mono ?_
        rintro e w1 ⟨m1, rfl, hm, hb1⟩
        have HM : Hid (Sz m m1 (TdBd 1048576 l[k])) := hm
        clear hm d0 d1
        by_cases hneg : m1 < 0
        · go_wp2_with fail
          go_ret
          exact ⟨-1, rfl, Sz.neg h0, hb.trans (hb1.mono hb.size)⟩
        · go_wp2_with fail
          go_roundw
          case rel => exact ⟨k + 1, m1, by omega, by go_num, rfl, by omega, by have := HM.out.1; omega, hb.trans (hb1.mono hb.size), all_take hlt HK.out (HM.out.2.2 (by omega))⟩
          case measure => simp [intOf]; omega
      · go_wp2_with fail
        go_ret
        rw [List.take_of_length_le (by omega)] at HK
        exact ⟨m, rfl, ⟨hm1, by omega, fun _ => ⟨by omega, HK.out⟩⟩, hb⟩
set_option maxHeartbeats 1000000 in
theorem sz_top (a : Option Addr) (c : Nat) (l : List Td) (n : Int) (w : World) (hr : TdRow 0 w.heap.size w a l) (hbd : TdsBd maxLen l) (h0 : 0 ≤ n) (h1 : n ≤ 1048576) :
    Calls Tryz.prog 4 #[.agg #[.slice a l.length c], .int .i64 n] w fun e w' => ∃ m, e = .returned (.int .i64 m) ∧ Sz n m (TdsBd 1048576 l) ∧ Below w.heap.size w w' := by
  have B0 : Below w.heap.size w (w.alloc (.cells #[.slice a l.length c] 24)) := (Below.refl _ _).alloc (Nat.le_refl _) _
  have R3 : Hid (TdRow 0 _ _ a l) := TdRow.up hr B0
  have HB : Hid _ := B0
  have HD : Hid _ := hbd
  clear hr B0 hbd
  go_enter Tryz.func4, Tryz.ntmps4
  go_wp2_with fail
  refine (sz_Tds a c l _ _ R3.out HD.out (by omega) (by omega)).mono ?_
  rintro e w3 ⟨m3, rfl, hm, hb3⟩
  have M3 : Hid _ := hm
  clear hm
  have q3 : Below w.heap.size w w3 := HB.out.trans (hb3.mono (by simp))
  by_cases n3 : m3 < 0
  · go_wp2_with fail
    go_ret
    exact ⟨-1, rfl, Sz.neg h0, q3⟩
  go_wp2_with fail
  go_ret
  exact ⟨m3, rfl, M3.out, q3⟩
end Go.Proofs.YthbjihbpjajggaaGreat.G
