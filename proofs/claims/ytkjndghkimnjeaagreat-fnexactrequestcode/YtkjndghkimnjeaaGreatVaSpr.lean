/- The names that a set spreads: the specification's list. -/
import Derived.Test.YtkjndghkimnjeaaGreatVaMerges
import Derived.Test.YtkjndghkimnjeaaGreatVaLimTwo
import Derived.Test.YtkjndghkimnjeaaGreatVaApp
import Derived.Maps.RangeWalk
import Derived.Deep.CutBlock
import Derived.Test.YtkjndghkimnjeaaGreatVaFields
namespace Go.Proofs.YtkjndghkimnjeaaGreat
open Go.ChangeShapes Go.WideShapes Go.ChangeAt Go.RowKit Go.Maps
set_option linter.unusedVariables false
set_option maxHeartbeats 4000000 in
set_option maxRecDepth 40000 in
theorem merge_fault (a : Option Addr) (c : Nat) (l : List De) (w : World) (hr : DeRow 0 w.heap.size w a l) (hb : DefsBd 1048576 l) (hex : ∀ x ∈ l, ∃ n, Ex l (toL x.sels) n ∧ n ≤ 400) :
    Calls Tryz.prog 61 #[.agg #[.slice a l.length c]] w fun e w' => (∃ y, e = .returned (.int .i64 y) ∧ MrgC l y) ∧ Below w.heap.size w w' := by
  obtain ⟨V, hV⟩ : ∃ V, V = w.alloc (.cells #[.slice a l.length c] 33) := ⟨_, rfl⟩
  have B0 : Below w.heap.size w V := by rw [hV]; exact (Below.refl _ _).alloc (Nat.le_refl _) _
  have c0 : V.heap[w.heap.size]? = some (.cells #[.slice a l.length c] 33 (0, 0)) := by rw [hV]; exact heap_alloc_new _ _
  have z0 := (Array.getElem?_eq_some_iff.1 c0).1
  have HR : Hid (DeRow 0 V.heap.size V a l) := DeRow.up hr B0
  have HB : Hid (DefsBd 1048576 l) := hb
  have HEX : Hid (∀ x ∈ l, ∃ n, Ex l (toL x.sels) n ∧ n ≤ 400) := hex
  have HB0 : Hid (Below w.heap.size w V) := B0
  have HC0 : Hid _ := c0
  have hll : l.length ≤ 1048576 := hb.1
  have x0 := fun o => row_cell c0 o
  clear hr hb c0 B0 hex
  go_enter Tryz.func61, Tryz.ntmps61
  go_upto_region 1 with fail
  rw [← hV]
  clear hV
  go_wp2_with (first | (go_at_call 98; revert hll) | fail)
  intro hll
  refine (frs_of a c l V HR.out HB.out).mono ?_
  rintro e w1 ⟨B, rfl, hB, hF, bq⟩
  have HF : Hid (FrHeld V w1 B (frsOf l)) := hF
  have Q1 : Hid (Below V.heap.size V w1) := bq
  have x1 := fun o => row_cell ((bq.block _ z0).trans HC0.out) o
  have hBl := hF.lt
  clear hF bq x0
  go_wp2_with fail
  go_loopw [11] (fun i w' => ∃ (k : Nat), k ≤ l.length ∧ i = .int .i64 k ∧ Hid (Below w1.heap.size w1 w') ∧ Hid (∀ x ∈ l.take k, MOk l (toL x.sels))) (fun i _ => l.length - (intOf i).toNat)
  case atStart => exact ⟨0, Nat.zero_le _, rfl, Below.refl _ _, fun x hx => by simp at hx⟩
  case round =>
    obtain ⟨k, hk, rfl, HBW, HT⟩ := hrel
    obtain ⟨wo, rfl⟩ : ∃ z, z = wr := ⟨_, rfl⟩
    have GV : Hid (Below V.heap.size V wo) := Q1.out.trans (HBW.out.mono Q1.out.size)
    have GB : Hid (Below w.heap.size w wo) := HB0.out.trans (GV.out.mono HB0.out.size)
    by_cases hlt : k < l.length
    case neg =>
      have hlt' : ¬ (k : Int) < l.length := by omega
      have HE : Hid (MrgC l 0) := .inr ⟨rfl, by have := HT.out; rwa [List.take_of_length_le (by omega)] at this⟩
      clear HT
      go_wp2_with fail
      go_ret
      exact ⟨⟨0, rfl, HE.out⟩, GB.out⟩
    have hlt' : (k : Int) < l.length := by omega
    obtain ⟨b, o, a3, c3, ha, _, hbl, d0, d1, d2, d3, r3⟩ := DeRow.cells HR.out k hlt
    subst ha
    replace d0 := (GV.out.cell (p := ⟨b, o + k * 4, none⟩) hbl).trans d0
    replace d1 := (GV.out.cell (p := ⟨b, o + k * 4 + 1, none⟩) hbl).trans d1
    replace d2 := (GV.out.cell (p := ⟨b, o + k * 4 + 2, none⟩) hbl).trans d2
    replace d3 := (GV.out.cell (p := ⟨b, o + k * 4 + 3, none⟩) hbl).trans d3
    have HR3 : Hid (SelRow 0 V.heap.size V a3 l[k].sels) := r3
    have hm := List.getElem_mem hlt
    have HXB : Hid (DeBd 1048576 l[k]) := HB.out.2 _ hm
    obtain ⟨n, hen, hn4⟩ := HEX.out _ hm
    have HEN : Hid (Ex l (toL l[k].sels) n) := hen
    have HNX : Hid (MOk l (toL l[k].sels) → ∀ x ∈ l.take (k + 1), MOk l (toL x.sels)) := fun h x hx => by
      rw [List.take_succ_eq_append_getElem hlt] at hx
      rcases List.mem_append.1 hx with hx | hx
      · exact HT.out x hx
      · simp only [List.mem_singleton] at hx; subst hx; exact h
    have HBD : Hid (¬ MOk l (toL l[k].sels) → MrgC l 15) := fun h => .inl ⟨rfl, fun hc => h (hc _ hm)⟩
    clear r3 HT hm hen
    obtain ⟨x, hx⟩ : ∃ x, x = l[k] := ⟨_, rfl⟩
    rw [← hx] at d0 d1 d2 d3 HR3 HXB HBD HNX HEN
    clear hx
    obtain ⟨U, hU⟩ : ∃ U, U = wo.alloc (.cells #[.int .i64 x.k, .string x.nm, .string x.on, .slice a3 x.sels.len c3] 78) := ⟨_, rfl⟩
    have BU : Below wo.heap.size wo U := by rw [hU]; exact (Below.refl _ _).alloc (Nat.le_refl _) _
    have cu : U.heap[wo.heap.size]? = some (.cells #[.int .i64 x.k, .string x.nm, .string x.on, .slice a3 x.sels.len c3] 78 (0, 0)) := by rw [hU]; exact heap_alloc_new _ _
    have y0 := fun o => row_cell cu o
    have HVU : Hid (Below V.heap.size V U) := GV.out.trans (BU.mono GV.out.size)
    have HWU : Hid (Below w1.heap.size w1 U) := HBW.out.trans (BU.mono HBW.out.size)
    have hq := merges_of V w1 B l HB.out HF.out Q1.out n hn4 (toL x.sels) a3 c3 U HEN.out (SelRow.fr2 HR3.out HVU.out) (SelsBd.lb HXB.out.2.2.2 HXB.out.2.2.1) HWU.out
    rw [toL_len] at hq
    have HQ : Hid _ := hq
    clear hq BU cu
    go_upto_region 5 with fail
    rw [← hU]
    clear hU d0 d1 d2 d3
    go_wp2_with fail
    refine Calls.mono HQ.out ?_
    rintro e w2 ⟨⟨bb, rfl, hbb⟩, b2⟩
    have BW2 : Hid (Below w1.heap.size w1 w2) := HWU.out.trans (b2.mono HWU.out.size)
    have GB2 : Hid (Below w.heap.size w w2) := HB0.out.trans ((Q1.out.trans (BW2.out.mono Q1.out.size)).mono HB0.out.size)
    clear b2 y0 HQ
    cases bb with
    | true =>
      have HT2 : Hid _ := HNX.out (hbb.1 rfl)
      clear hbb
      go_wp2_with fail
      exact ⟨⟨k + 1, by omega, by go_num, BW2, HT2⟩, by simp [intOf]; omega⟩
    | false =>
      have HE : Hid (MrgC l 15) := HBD.out fun h => by have := hbb.2 h; cases this
      clear hbb
      go_wp2_with fail
      go_ret
      exact ⟨⟨15, rfl, HE.out⟩, GB2.out⟩
end Go.Proofs.YtkjndghkimnjeaaGreat
namespace Go.Proofs.YtkjndghkimnjeaaGreat
open Go.ChangeShapes Go.WideShapes Go.ChangeAt Go.RowKit Go.Maps
set_option linter.unusedVariables false

/-- The first of n codes that is not 0, or 0. -/
def FsR (R : Nat → Int → Prop) (n : Nat) (y : Int) : Prop := (y = 0 ∧ ∀ j, j < n → R j 0) ∨ (y ≠ 0 ∧ ∃ i, i < n ∧ R i y ∧ ∀ j, j < i → R j 0)
set_option maxHeartbeats 2000000 in
set_option maxRecDepth 40000 in
theorem first_fault (dv : Value) (hdv : ∃ a n c, dv = .agg #[.slice a n c]) (g : Nat → Nat) (cb : Nat → Array Value) (n : Nat) (hn : n ≤ 1000) (R : Nat → Int → Prop) (b c : Nat) (w : World)
    (hrow : ∀ i, i < n → w.cell? ⟨b, i, none⟩ = some (.func (.func (g i)) #[] (cb i))) (hb : b < w.heap.size)
    (eg : ∀ i, i < n → ∀ args w, (callFunc (g i) args).run Tryz.prog w = .ok (.enter (g i) args) w)
    (hc : ∀ i, i < n → (∀ j, j < i → R j 0) → ∀ W, Below w.heap.size w W → Calls Tryz.prog (g i) (#[dv] ++ cb i) W fun e w' => (∃ y, e = .returned (.int .i64 y) ∧ R i y) ∧ Below W.heap.size W w') :
    Calls Tryz.prog 57 #[dv, .slice (some ⟨b, 0, none⟩) n c] w fun e w' => (∃ y, e = .returned (.int .i64 y) ∧ FsR R n y) ∧ Below w.heap.size w w' := by
  have HROW : Hid _ := hrow
  have HC : Hid _ := hc
  have HEG : Hid _ := eg
  obtain ⟨aD, nD, cD, rfl⟩ := hdv
  clear hrow hc eg
  go_enter Tryz.func57, Tryz.ntmps57
  go_wp2_with fail
  obtain ⟨V, hV⟩ : ∃ V, V = w.alloc (.cells #[.slice aD nD cD] 33) := ⟨_, rfl⟩
  rw [← hV]
  have BV : Hid (Below w.heap.size w V) := by rw [Hid, hV]; exact (Below.refl _ _).alloc (Nat.le_refl _) _
  have cV : V.heap[w.heap.size]? = some (.cells #[.slice aD nD cD] 33 (0, 0)) := by rw [hV]; exact heap_alloc_new _ _
  have zV : w.heap.size < V.heap.size := by rw [hV]; simp
  have CV : Hid _ := cV
  clear hV cV
  go_loopw [10] (fun i w' => ∃ k : Nat, i = .int .i64 k ∧ k ≤ n ∧ Hid (Below V.heap.size V w') ∧ Hid (∀ j, j < k → R j 0)) (fun i _ => n - (intOf i).toNat)
  case atStart => exact ⟨0, rfl, Nat.zero_le _, Below.refl _ _, fun j hj => absurd hj (Nat.not_lt_zero _)⟩
  case round =>
    obtain ⟨k, rfl, hk, HB, HZ⟩ := hrel
    obtain ⟨wo, rfl⟩ : ∃ z, z = wr := ⟨_, rfl⟩
    have HW : Hid (Below w.heap.size w wo) := BV.out.trans (HB.out.mono (by omega))
    by_cases hlt : k < n
    case neg =>
      have hlt' : ¬ (k : Int) < n := by omega
      obtain rfl : k = n := by omega
      go_wp2_with fail
      go_ret
      exact ⟨⟨0, rfl, .inl ⟨rfl, HZ.out⟩⟩, HW.out⟩
    have hlt' : (k : Int) < n := by omega
    have cr : wo.cell? ⟨b, k, none⟩ = some (.func (.func (g k)) #[] (cb k)) := (HW.out.cell (p := ⟨b, k, none⟩) hb).trans (HROW.out k hlt)
    have cd : wo.cell? ⟨w.heap.size, 0, none⟩ = some (.slice aD nD cD) := row_cell ((HB.out.block _ zV).trans CV.out) 0
    have ek := HEG.out k hlt
    have HK : Hid _ := HC.out k hlt HZ.out wo HW.out
    obtain ⟨gk, hgk⟩ : ∃ z, z = g k := ⟨_, rfl⟩
    obtain ⟨ck, hck⟩ : ∃ z, z = cb k := ⟨_, rfl⟩
    rw [← hgk, ← hck] at HK cr
    rw [← hgk] at ek
    clear hgk hck
    go_wp2_with fail
    refine Calls.mono HK.out ?_
    rintro e w1 ⟨⟨y, rfl, hy⟩, b1⟩
    have HY : Hid (R k y) := hy
    have B1 : Hid (Below w.heap.size w w1) := HW.out.trans (b1.mono HW.out.size)
    have B2 : Hid (Below V.heap.size V w1) := HB.out.trans (b1.mono HB.out.size)
    clear hy b1 HK cr cd
    by_cases hz : y = 0
    · subst hz
      go_wp2_with fail
      refine ⟨⟨k + 1, by go_num, by omega, B2, fun j hj => ?_⟩, by simp [intOf]; omega⟩
      by_cases e : j = k
      · rw [e]; exact HY.out
      · exact HZ.out j (by omega)
    · have hz' : (y != 0) = true := by simp [bne, hz]
      go_wp2_with fail
      go_ret
      exact ⟨⟨y, rfl, .inr ⟨hz, k, hlt, HY.out, HZ.out⟩⟩, B1.out⟩
end Go.Proofs.YtkjndghkimnjeaaGreat
namespace Go.Proofs.YtkjndghkimnjeaaGreat
open Go.ChangeShapes Go.WideShapes Go.ChangeAt Go.RowKit Go.Maps
open Go.WideMaps (keyOf_string_mk)
set_option linter.unusedVariables false

def SprIn (s : Sels) : Prop := ∀ (w0 : World) (B : Nat) (L : List De) (a : Option Addr) (c : Nat) (w : World), FrHeld w0 w B L → SelRow 0 w.heap.size w a s → s.len ≤ 1048576 → SelsBd 1048576 s →
    Calls Tryz.prog 99 #[.map (some B), .slice a s.len c] w fun e w' => e = .returned (.bool ((sprd s).any (hasNm L))) ∧ Below w.heap.size w w'
theorem sprd_field {h : Hd} {sub rest : Sels} (hk : (h.k == 2) = false) : sprd (.cons h sub rest) = sprd sub ++ sprd rest := by simp [sprd, hk]
theorem sprd_spread {h : Hd} {sub rest : Sels} (hk : (h.k == 2) = true) : sprd (.cons h sub rest) = h.nm :: (sprd sub ++ sprd rest) := by simp [sprd, hk]
set_option maxHeartbeats 4000000 in
set_option maxRecDepth 40000 in
theorem spread_in (s : Sels) : SprIn s := by
  induction hN : s.size using Nat.strongRecOn generalizing s with
  | _ N ih =>
  subst hN
  intro w0 B L a c w hF hr hl hbd
  have IH : Hid (∀ sub : Sels, sub.size < s.size → SprIn sub) := fun sub h => ih sub.size h sub rfl
  have HR : Hid (SelFrom 0 w.heap.size w a 0 s) := hr.from_
  have HB : Hid (SelsBd 1048576 s) := hbd
  have HF : Hid (FrHeld w0 w B L) := hF
  have hBl := hF.lt
  clear hr ih hbd hF
  go_enter Tryz.func99, Tryz.ntmps99
  go_wp2_with fail
  go_loopw [9] (fun i w' => ∃ (k : Nat) (rest : Sels), Hid (s.len = k + rest.len) ∧ i = .int .i64 k ∧ Hid (Below w.heap.size w w') ∧ Hid (rest.size ≤ s.size) ∧ Hid (SelsBd 1048576 rest) ∧ Hid (SelFrom 0 w.heap.size w a k rest) ∧ Hid ((sprd s).any (hasNm L) = (sprd rest).any (hasNm L))) (fun i _ => s.len - (intOf i).toNat)
  case atStart => exact ⟨0, s, by simp [Hid], rfl, Below.refl _ _, Nat.le_refl _, HB, HR, rfl⟩
  case round =>
    obtain ⟨k, rest, HK, rfl, HBW, HZ, HD, HFR, HA⟩ := hrel
    cases rest with
    | nil =>
      have hk' : ¬ (k : Int) < s.len := by rw [HK.out]; simp only [Sels.len]; omega
      have HAE : Hid ((sprd s).any (hasNm L) = false) := by rw [Hid, HA.out]; rfl
      clear HA
      go_wp2_with fail
      go_ret
      exact ⟨by rw [HAE.out]; rfl, HBW.out⟩
    | cons h sub rest =>
      have hlt : (k : Int) < s.len := by rw [HK.out]; simp only [Sels.len]; omega
      have HK2 : Hid (s.len = k + 1 + rest.len) := by rw [Hid, HK.out]; simp only [Sels.len]; omega
      obtain ⟨b, o, a1, c1, a2, c2, a3, c3, ha, _, hbl, d0, d1, d2, d3, d4, d5, r1, r2, r3, _⟩ := (HFR.out.keep (Below.agree HBW.out (Nat.le_refl _))).step
      have HF2 : Hid (SelFrom 0 w.heap.size w a (k + 1) rest) := SelFrom.next HFR.out
      subst ha
      have hbz := HBW.out.size
      have K3 : Hid (∀ W0, Below wr.heap.size wr W0 → SelRow 0 W0.heap.size W0 a3 sub) := fun W0 hB => SelRow.up (SelRow.wide r3 (Nat.le_refl _) hbz) hB
      obtain ⟨⟨x1, x2, x3, x4, x5, x6⟩, e2, e3, e4⟩ := HD.out
      have E3 : Hid (SelsBd 1048576 sub) := e3
      have E4 : Hid (SelsBd 1048576 rest) := e4
      have HZ2 : Hid (rest.size ≤ s.size) := by have := HZ.out; simp only [Sels.size] at this; unfold Hid; omega
      have IS : Hid (SprIn sub) := IH.out sub (by have := HZ.out; simp only [Sels.size] at this; omega)
      have hbl' : b < wr.heap.size := by omega
      have HFW : Hid (∀ W, Below wr.heap.size wr W → FrHeld w0 W B L) := fun W hW => HF.out.keep ((hW.block _ (by omega)).trans (HBW.out.block _ hBl))
      clear r1 r2 r3 e3 e4 x4 x6
      obtain ⟨V, hV⟩ : ∃ V, V = wr.alloc (.cells #[.int .i64 h.k, .string h.al, .string h.nm, .slice a1 h.args.length c1, .slice a2 h.dirs.length c2, .slice a3 sub.len c3] 115) := ⟨_, rfl⟩
      have BV : Below wr.heap.size wr V := by rw [hV]; exact (Below.refl _ _).alloc (Nat.le_refl _) _
      have c0 : V.heap[wr.heap.size]? = some (.cells #[.int .i64 h.k, .string h.al, .string h.nm, .slice a1 h.args.length c1, .slice a2 h.dirs.length c2, .slice a3 sub.len c3] 115 (0, 0)) := by rw [hV]; exact heap_alloc_new _ _
      have zV := (Array.getElem?_eq_some_iff.1 c0).1
      have KV : Hid (∀ W, Below V.heap.size V W → W.heap[wr.heap.size]? = some (.cells #[.int .i64 h.k, .string h.al, .string h.nm, .slice a1 h.args.length c1, .slice a2 h.dirs.length c2, .slice a3 sub.len c3] 115 (0, 0)) ∧ FrHeld w0 W B L ∧ SelRow 0 W.heap.size W a3 sub ∧ Below w.heap.size w W) := fun W hW =>
        have hw := BV.trans (hW.mono BV.size)
        ⟨(hW.block _ zV).trans c0, HFW.out _ hw, K3.out _ hw, HBW.out.trans (hw.mono hbz)⟩
      have x0 := fun o => row_cell c0 o
      clear c0 BV K3 HFW
      go_upto_region 4 with fail
      rw [← hV]
      clear hV d0 d1 d2 d3 d4 d5
      have sub_step : Hid (∀ W, Below V.heap.size V W → Calls Tryz.prog 99 #[.map (some B), .slice a3 sub.len c3] W fun e w' => e = .returned (.bool ((sprd sub).any (hasNm L))) ∧ Below W.heap.size W w') := fun W hW => IS.out w0 B L a3 c3 W (KV.out W hW).2.1 (KV.out W hW).2.2.1 e2 E3.out
      have goOn : Hid (∀ W, Below V.heap.size V W → Below w.heap.size w W) := fun W hW => (KV.out W hW).2.2.2
      cases hk2 : (h.k == 2) with
      | true =>
        have HS : Hid ((sprd s).any (hasNm L) = (hasNm L h.nm || ((sprd sub).any (hasNm L) || (sprd rest).any (hasNm L)))) := by rw [Hid, HA.out, sprd_spread hk2, List.any_cons, List.any_append]
        have hq := frs_has w0 B L h.nm V (KV.out _ (Below.refl _ _)).2.1 (by unfold maxLen; omega)
        clear HA
        cases hh : hasNm L h.nm with
        | true =>
          rw [hh] at hq HS
          have HQ : Hid _ := hq
          clear hq
          go_wp2_with fail
          refine Calls.mono HQ.out ?_
          rintro e w1 ⟨rfl, bq⟩
          have GB : Hid _ := goOn.out _ bq
          clear bq x0
          go_wp2_with fail
          go_ret
          exact ⟨by rw [HS.out]; rfl, GB.out⟩
        | false =>
        rw [hh, Bool.false_or] at HS
        rw [hh] at hq
        have HQ : Hid _ := hq
        clear hq
        go_wp2_with fail
        refine Calls.mono HQ.out ?_
        rintro e w1 ⟨rfl, bq⟩
        have Q1 : Hid (Below V.heap.size V w1) := bq
        clear bq x0
        have x0 := fun o => row_cell (KV.out _ Q1.out).1 o
        have hs := sub_step.out w1 Q1.out
        cases hsb : (sprd sub).any (hasNm L) with
        | true =>
          rw [hsb] at hs HS
          have HSS : Hid _ := hs
          clear hs
          go_wp2_with fail
          refine Calls.mono HSS.out ?_
          rintro e w2 ⟨rfl, bq⟩
          have GB : Hid _ := goOn.out _ (Q1.out.trans (bq.mono Q1.out.size))
          clear bq x0
          go_wp2_with fail
          go_ret
          exact ⟨by rw [HS.out]; rfl, GB.out⟩
        | false =>
          rw [hsb, Bool.false_or] at HS
          rw [hsb] at hs
          have HSS : Hid _ := hs
          clear hs
          go_wp2_with fail
          refine Calls.mono HSS.out ?_
          rintro e w2 ⟨rfl, bq⟩
          have GB : Hid _ := goOn.out _ (Q1.out.trans (bq.mono Q1.out.size))
          clear bq x0
          go_wp2_with fail
          exact ⟨⟨k + 1, rest, HK2, by go_num, GB, HZ2, E4, HF2, HS⟩, by simp [intOf]; omega⟩
      | false =>
        have HS : Hid ((sprd s).any (hasNm L) = ((sprd sub).any (hasNm L) || (sprd rest).any (hasNm L))) := by rw [Hid, HA.out, sprd_field hk2, List.any_append]
        clear HA
        have hs := sub_step.out V (Below.refl _ _)
        cases hsb : (sprd sub).any (hasNm L) with
        | true =>
          rw [hsb] at hs HS
          have HSS : Hid _ := hs
          clear hs
          go_wp2_with fail
          refine Calls.mono HSS.out ?_
          rintro e w2 ⟨rfl, bq⟩
          have GB : Hid _ := goOn.out _ bq
          clear bq x0
          go_wp2_with fail
          go_ret
          exact ⟨by rw [HS.out]; rfl, GB.out⟩
        | false =>
          rw [hsb, Bool.false_or] at HS
          rw [hsb] at hs
          have HSS : Hid _ := hs
          clear hs
          go_wp2_with fail
          refine Calls.mono HSS.out ?_
          rintro e w2 ⟨rfl, bq⟩
          have GB : Hid _ := goOn.out _ bq
          clear bq x0
          go_wp2_with fail
          exact ⟨⟨k + 1, rest, HK2, by go_num, GB, HZ2, E4, HF2, HS⟩, by simp [intOf]; omega⟩
end Go.Proofs.YtkjndghkimnjeaaGreat
namespace Go.Proofs.YtkjndghkimnjeaaGreat
open Go.ChangeShapes Go.WideShapes Go.ChangeAt Go.RowKit Go.Maps
open Go.WideMaps (keyOf_string_mk)
set_option linter.unusedVariables false

/-- The code of a document with a cycle, or 0. -/
def CycC (l : List De) (y : Int) : Prop := (y = 13 ∧ Cyc l) ∨ (y = 0 ∧ ¬ Cyc l)
theorem CycC.one {l : List De} {y y' : Int} (h : CycC l y) (h' : CycC l y') : y = y' := by
  rcases h with ⟨rfl, h⟩ | ⟨rfl, h⟩ <;> rcases h' with ⟨rfl, h'⟩ | ⟨rfl, h'⟩
  · rfl
  · exact absurd h h'
  · exact absurd h' h
  · rfl
theorem same_string (s t : List UInt8) : (Lit.string s).sameKey (.string t) = (s == t) := by
  first | rfl | simp [Lit.sameKey]
theorem names_one {L : List De} (hn : (L.map fun x => x.nm.toList).Nodup) {x y : De} (hy : y ∈ L) (hx : x ∈ L) (e : y.nm.toList = x.nm.toList) : y = x := by
  induction L with
  | nil => simp at hx
  | cons z L ih =>
    rw [List.map_cons, List.nodup_cons] at hn
    rcases List.mem_cons.1 hx with rfl | hx2
    · rcases List.mem_cons.1 hy with rfl | hy2
      · rfl
      · exact absurd (List.mem_map.2 ⟨y, hy2, e⟩) hn.1
    · rcases List.mem_cons.1 hy with rfl | hy2
      · exact absurd (List.mem_map.2 ⟨x, hx2, e.symm⟩) hn.1
      · exact ih hn.2 hy2 hx2
set_option maxHeartbeats 8000000 in
set_option maxRecDepth 40000 in
theorem cycle_fault (a : Option Addr) (c : Nat) (l : List De) (w : World) (hr : DeRow 0 w.heap.size w a l) (hb : DefsBd 1048576 l) :
    Calls Tryz.prog 59 #[.agg #[.slice a l.length c]] w fun e w' => (∃ y, e = .returned (.int .i64 y) ∧ CycC l y) ∧ Below w.heap.size w w' := by
  obtain ⟨V, hV⟩ : ∃ V, V = w.alloc (.cells #[.slice a l.length c] 33) := ⟨_, rfl⟩
  have B0 : Below w.heap.size w V := by rw [hV]; exact (Below.refl _ _).alloc (Nat.le_refl _) _
  have c0 : V.heap[w.heap.size]? = some (.cells #[.slice a l.length c] 33 (0, 0)) := by rw [hV]; exact heap_alloc_new _ _
  have HR : Hid (DeRow 0 V.heap.size V a l) := DeRow.up hr B0
  have HB : Hid (DefsBd 1048576 l) := hb
  have HB0 : Hid (Below w.heap.size w V) := B0
  have x0 := fun o => row_cell c0 o
  clear hr hb c0 B0
  go_enter Tryz.func59, Tryz.ntmps59
  go_upto_region 1 with fail
  rw [← hV]
  clear hV
  go_step3
  go_wp2_with fail
  refine (frs_of a c l V HR.out HB.out).mono ?_
  rintro e w1 ⟨B, rfl, hB, hF, bq⟩
  have HF : Hid (FrHeld V w1 B (frsOf l)) := hF
  have Q1 : Hid (Below V.heap.size V w1) := bq
  have HS : Hid (LeftOK l (frsOf l)) := leftOK_start l (frs_find l)
  have HNN : Hid (((frsOf l).map fun x => x.nm.toList).Nodup) := frs_names l
  have HSB : Hid (∀ x ∈ frsOf l, DeBd 1048576 x) := fun x hx => HB.out.2 x (frs_sub l x hx)
  generalize frsOf l = L0 at *
  clear hF bq x0
  go_wp2_with fail
  go_step3
  go_wp2_with fail
  go_loopw [8] (fun _ w' => ∃ (L : List De), Hid (FrHeld V w' B L) ∧ Hid (LeftOK l L) ∧ Hid (Below V.heap.size V w') ∧ Hid ((L.map fun x => x.nm.toList).Nodup) ∧ Hid (∀ x ∈ L, DeBd 1048576 x)) (fun _ w' => mapN w' B)
  case atStart => exact ⟨L0, HF, HS, Q1, HNN, HSB⟩
  case round =>
    obtain ⟨L, HFL, HO, HBW, HN, HSL⟩ := hrel
    obtain ⟨wo, rfl⟩ : ∃ x, x = wr := ⟨_, rfl⟩
    obtain ⟨D, hown, hD⟩ := HFL.out.data
    have HD : Hid (FrD V D L) := hD
    have HOW : Hid (wo.ownsMap Tryz.prog 9 heldE B L.length D) := hown
    have hTid : Tidy D := hown.tidy law9
    have HT : Hid (Tidy D) := hTid
    have hsz : Maps.size D = L.length := hD.1
    have hBlt : B < wo.heap.size := HFL.out.lt
    clear hown hD hTid
    have HME : Hid (mapN wo B = L.length) := HFL.out.mapN
    by_cases h0 : L = []
    · have hz : ¬ (0 : Int) < (Maps.size D : Int) := by rw [hsz, h0]; simp
      have HE : Hid (CycC l 0) := .inr ⟨rfl, leftOK_end (h0 ▸ HO.out)⟩
      have GB : Hid (Below w.heap.size w wo) := HB0.out.trans (HBW.out.mono HB0.out.size)
      clear h0 hsz
      go_wp2_with (first | (at_len; refine wpList_len_own _ rfl _ _ rfl 9 78 Tryz.underlying145 heldE B L.length D rfl HOW.out ?_) | fail)
      try rw [Exit.noGoto_ret]
      go_ret
      exact ⟨⟨0, rfl, HE.out⟩, GB.out⟩
    have hz : (0 : Int) < (Maps.size D : Int) := by
      rw [hsz]
      have := List.length_pos_iff.2 h0
      omega
    have H0 : Hid (L ≠ []) := h0
    clear h0 hsz
    go_wp2_with (first | (at_len; refine wpList_len_own _ rfl _ _ rfl 9 78 Tryz.underlying145 heldE B L.length D rfl HOW.out ?_) | (at_range; refine wpList_range_own _ rfl _ 145 rfl 9 78 law9 Tryz.underlying145 heldE B L.length D rfl HOW.out ?_; intro wi hrg0 hg0 hs0) | fail)
    go_frame
    have hdz : decide (0 < Maps.size D) = true := decide_eq_true (by omega)
    rw [hdz]
    have HRG0 : Hid (wi.ranges Tryz.prog 9 heldE B wo.heap.size L.length D (Maps.has D) (Maps.size D)) := hrg0
    have BI : Hid (Below wo.heap.size wo wi) := (Below.refl _ _).grown hg0 (Nat.le_refl _) (fun k hk => by cases hk)
    have hsi : wo.heap.size + 1 ≤ wi.heap.size := by omega
    clear hrg0 hg0 hs0
    go_loopw [13] (fun _ w' => ∃ (left : Lit → Bool) (cnt : Nat), Hid (w'.ranges Tryz.prog 9 heldE B wo.heap.size L.length D left cnt) ∧ Hid (Below wo.heap.size wo w') ∧ wo.heap.size + 1 ≤ w'.heap.size ∧ Hid (∀ x ∈ L, left (.string x.nm.toList) = false → (sprd x.sels).any (hasNm L) = true)) (fun _ w' => w'.rangeLeft B wo.heap.size)
    case atStart =>
      refine ⟨_, _, HRG0, BI, hsi, fun x hx hl => ?_⟩
      rw [HD.out.2.1] at hl
      have : hasNm L x.nm = true := List.any_eq_true.2 ⟨x, hx, by simp⟩
      rw [hl] at this; cases this
    case round =>
      obtain ⟨left, cnt, HRG, HBI, hsw, HSE⟩ := hrel
      go_wp2_with (first | (at_next; refine wpList_next_frs rfl _ rfl B wo.heap.size L.length D left cnt V L HD.out rfl HRG.out ?_ ?_) | fail)
      · intro hl
        have HE : Hid (CycC l 13) := .inl ⟨rfl, left_stuck HO.out H0.out fun x hx => HSE.out x hx (hl _)⟩
        have GB : Hid (Below w.heap.size w wr) := (HB0.out.trans (HBW.out.mono HB0.out.size)).trans (HBI.out.mono (HB0.out.trans (HBW.out.mono HB0.out.size)).size)
        clear hl
        go_wp2_with fail
        try rw [Exit.noGoto_ret]
        go_ret
        exact ⟨⟨13, rfl, HE.out⟩, GB.out⟩
      · intro x a3 c3 w1 cnt1 hx hsr hlx hrg1 hlt hg1 hs1 hen
        have B1 : Hid (Below wo.heap.size wo w1) := HBI.out.grown hg1 (by omega) (fun k hk => by cases hk; exact Nat.le_refl _)
        have HRG1 : Hid (w1.ranges Tryz.prog 9 heldE B wo.heap.size L.length D (fun z => left z && !z.sameKey (.string x.nm.toList)) cnt1) := hrg1
        have HX : Hid (x ∈ L) := hx
        have HSR : Hid (SelRow 0 V.heap.size V a3 x.sels) := hsr
        have HXB : Hid (DeBd 1048576 x) := HSL.out x hx
        have hsz1 : wo.heap.size + 1 ≤ w1.heap.size := by omega
        have HLF : Hid (wr.rangeLeft B wo.heap.size = cnt) := HRG.out.left_eq
        have HLF1 : Hid (w1.rangeLeft B wo.heap.size = cnt1) := hrg1.left_eq
        clear hrg1 hx hsr hlx hg1 hs1
        obtain ⟨U, hU⟩ : ∃ U, U = w1.alloc (.cells #[.int .i64 x.k, .string x.nm, .string x.on, .slice a3 x.sels.len c3] 78) := ⟨_, rfl⟩
        have BU : Below w1.heap.size w1 U := by rw [hU]; exact (Below.refl _ _).alloc (Nat.le_refl _) _
        have c0 : U.heap[w1.heap.size]? = some (.cells #[.int .i64 x.k, .string x.nm, .string x.on, .slice a3 x.sels.len c3] 78 (0, 0)) := by rw [hU]; exact heap_alloc_new _ _
        have x0 := fun o => row_cell c0 o
        have hBl1 : B < w1.heap.size := by have := B1.out.size; omega
        have KU : Hid (∀ W, Below U.heap.size U W → W.ranges Tryz.prog 9 heldE B wo.heap.size L.length D (fun z => left z && !z.sameKey (.string x.nm.toList)) cnt1 ∧ W.rangeLeft B wo.heap.size = cnt1 ∧ Below wo.heap.size wo W ∧ wo.heap.size + 1 ≤ W.heap.size) := fun W hW => by
          have hw := BU.trans (hW.mono BU.size)
          have hk := ranges_same HRG1.out (w' := W) (hw.block _ hBl1) (hw.block _ (by omega))
          exact ⟨hk.1, hk.2.trans HLF1.out, B1.out.trans (hw.mono (by omega)), by have := hw.size; omega⟩
        have HQ : Hid (Calls Tryz.prog 99 #[.map (some B), .slice a3 x.sels.len c3] U fun e w' => e = .returned (.bool ((sprd x.sels).any (hasNm L))) ∧ Below U.heap.size U w') := by
          have k := KU.out U (Below.refl _ _)
          have bvu : Below V.heap.size V U := HBW.out.trans (k.2.2.1.mono HBW.out.size)
          exact spread_in x.sels V B L a3 c3 U (FrD.held k.1.owns HD.out) (SelRow.up HSR.out bvu) HXB.out.2.2.1 HXB.out.2.2.2
        clear c0 BU
        go_upto_region 6 with fail
        rw [← hU]
        clear hU hen
        cases hsp : (sprd x.sels).any (hasNm L) with
        | true =>
          rw [hsp] at HQ
          go_wp2_with fail
          refine Calls.mono HQ.out ?_
          rintro e w2 ⟨rfl, bq⟩
          have K2 : Hid _ := KU.out _ bq
          clear bq x0
          have HSP : Hid ((sprd x.sels).any (hasNm L) = true) := hsp
          go_wp2_with fail
          go_roundw
          case rel =>
            refine ⟨_, cnt1, K2.out.1, K2.out.2.2.1, K2.out.2.2.2, fun y hy hl => ?_⟩
            simp only [Bool.and_eq_false_iff, Bool.not_eq_false'] at hl
            rcases hl with hl | hl
            · exact HSE.out y hy hl
            · rw [same_string, beq_iff_eq] at hl
              rw [names_one HN.out hy HX.out hl]
              exact HSP.out
          case measure => rw [K2.out.2.1, HLF.out]; exact hlt
        | false =>
          rw [hsp] at HQ
          go_wp2_with fail
          refine Calls.mono HQ.out ?_
          rintro e w2 ⟨rfl, bq⟩
          have K2 : Hid _ := KU.out _ bq
          clear bq x0
          have hkey : keyOf Tryz.prog 9 (.string x.nm) = some (.string x.nm.toList) := key_of (by have := HXB.out.1; unfold maxLen; omega)
          go_wp2_with (first | (at_delete; refine wpList_delete_own _ rfl _ _ 145 9 rfl 78 law9 Tryz.underlying145 heldE B L.length D rfl K2.out.1.owns _ _ rfl hkey ?_; intro w3 hown3 hturn3; go_frame) | fail)
          have HF3 : Hid (FrHeld V w3 B (L.filter fun y => !(y.nm.toList == x.nm.toList))) := FrD.held hown3 (FrD.del HT.out HD.out HN.out HX.out)
          have HO3 : Hid _ := leftOK_step HO.out HX.out hsp
          have B3 : Hid (Below wo.heap.size wo w2) := K2.out.2.2.1
          have B4 : Hid (Below V.heap.size V w3) := (HBW.out.trans (B3.out.mono HBW.out.size)).grown hturn3.grown (by have := HBW.out.size; have := B3.out.size; omega) (fun k hk => by cases hk; exact hB)
          have HL3 : Hid (mapN w3 B + 1 = mapN wo B) := by rw [Hid, HF3.out.mapN, HME.out]; exact names_filter HN.out HX.out
          clear hown3 hturn3
          go_wp2_with fail
          exact ⟨⟨_, HF3, HO3, B4, names_nodup HN.out _, fun y hy => HSL.out y (List.mem_filter.1 hy).1⟩, by have := HL3.out; omega⟩
end Go.Proofs.YtkjndghkimnjeaaGreat
namespace Go.Proofs.YtkjndghkimnjeaaGreat
open Go.ChangeShapes Go.WideShapes Go.ChangeAt Go.RowKit
set_option linter.unusedVariables false

def SpSels (s : Sels) : Prop := ∀ (a : Option Addr) (c : Nat) (w : World), SelRow 0 w.heap.size w a s → s.len ≤ 1048576 → SelsBd 1048576 s → s.size ≤ 1048576 →
    Calls Tryz.prog 78 #[.slice a s.len c] w fun e w' => (∃ a' c', e = .returned (.slice a' (sprd s).length c') ∧ NOwn w.heap.size w' (.slice a' (sprd s).length c') (sprd s)) ∧ Below w.heap.size w w'
set_option maxHeartbeats 4000000 in
set_option maxRecDepth 40000 in
theorem sp_sels (s : Sels) : SpSels s := by
  induction hN : s.size using Nat.strongRecOn generalizing s with
  | _ N ih =>
  subst hN
  intro a c w hr hl hbd hsize
  have IH : Hid (∀ sub : Sels, sub.size < s.size → SpSels sub) := fun sub h => ih sub.size h sub rfl
  have HR : Hid (SelFrom 0 w.heap.size w a 0 s) := hr.from_
  have HB : Hid (SelsBd 1048576 s) := hbd
  have HSZ : Hid (s.size ≤ 1048576) := hsize
  clear hr ih hbd hsize
  go_enter Tryz.func78, Tryz.ntmps78
  go_wp2_with fail
  go_loopw [3, 4] (fun v i w' => ∃ (k : Nat) (rest : Sels) (ms : List ByteArray), Hid (s.len = k + rest.len) ∧ i = .int .i64 k ∧ Hid (Below w.heap.size w w') ∧ Hid (ms.length + rest.size ≤ s.size) ∧ Hid (SelsBd 1048576 rest) ∧ Hid (SelFrom 0 w.heap.size w a k rest) ∧ Hid (sprd s = ms ++ sprd rest) ∧ Hid (NOwn w.heap.size w' v ms)) (fun _ i _ => s.len - (intOf i).toNat)
  case atStart => exact ⟨0, s, [], by simp [Hid], rfl, (Below.refl _ _).alloc (Nat.le_refl _) _, by simp [Hid], HB, HR, rfl, NOwn.made w (Nat.le_refl _)⟩
  case round =>
    obtain ⟨k, rest, ms, HK, rfl, HBW, HZ, HD, HFR, HA, HO⟩ := hrel
    cases rest with
    | nil =>
      have hk' : ¬ (k : Int) < s.len := by rw [HK.out]; simp only [Sels.len]; omega
      have HAE : Hid (sprd s = ms) := by rw [Hid, HA.out]; simp [sprd]
      obtain ⟨a9, c9, rfl, _⟩ := NOwn.row HO.out
      clear HA
      go_wp2_with fail
      go_ret
      exact ⟨⟨a9, c9, by rw [HAE.out]; rfl, by rw [HAE.out]; exact HO.out⟩, HBW.out⟩
    | cons h sub rest =>
      have hlt : (k : Int) < s.len := by rw [HK.out]; simp only [Sels.len]; omega
      have HK2 : Hid (s.len = k + 1 + rest.len) := by rw [Hid, HK.out]; simp only [Sels.len]; omega
      obtain ⟨b, o, a1, c1, a2, c2, a3, c3, ha, _, hbl, d0, d1, d2, d3, d4, d5, r1, r2, r3, _⟩ := (HFR.out.keep (Below.agree HBW.out (Nat.le_refl _))).step
      have HF2 : Hid (SelFrom 0 w.heap.size w a (k + 1) rest) := SelFrom.next HFR.out
      subst ha
      have hbz := HBW.out.size
      have K3 : Hid (∀ W0, Below w.heap.size w W0 → SelRow 0 W0.heap.size W0 a3 sub) := fun W0 hB => by
        obtain ⟨b', o', _, _, _, _, a3', c3', ha', _, hb', _, _, _, _, _, e5, _, _, r3', _⟩ := HFR.out.step
        simp only [Option.some.injEq, Addr.mk.injEq, and_true] at ha'
        obtain ⟨rfl, rfl⟩ := ha'
        have : some (Value.slice a3' sub.len c3') = some (.slice a3 sub.len c3) := e5.symm.trans ((HBW.out.cell (p := ⟨b, o + k * 6 + 5, none⟩) hbl).symm.trans d5)
        simp only [Option.some.injEq, Value.slice.injEq] at this
        rw [← this.1]
        exact SelRow.up r3' hB
      have KC : Hid (∀ W0, Below w.heap.size w W0 → W0.cell? ⟨b, o + k * 6 + 5, none⟩ = some (.slice a3 sub.len c3)) := fun W0 hB => (hB.cell (p := ⟨b, o + k * 6 + 5, none⟩) hbl).trans ((HBW.out.cell (p := ⟨b, o + k * 6 + 5, none⟩) hbl).symm.trans d5)
      obtain ⟨⟨x1, x2, x3, x4, x5, x6⟩, e2, e3, e4⟩ := HD.out
      have E3 : Hid (SelsBd 1048576 sub) := e3
      have E4 : Hid (SelsBd 1048576 rest) := e4
      have hZ : ms.length + (1 + sub.size + rest.size) ≤ s.size := HZ.out
      have hsb : (sprd sub).length ≤ sub.size := sprd_len sub
      have hss : s.size ≤ 1048576 := HSZ.out
      have IS : Hid (SpSels sub) := IH.out sub (by omega)
      have finish : Hid (∀ (W : World) (v : Value) (ns : List ByteArray), Below w.heap.size w W → NOwn w.heap.size W v ns → ns.length + sub.size + rest.size ≤ s.size → sprd s = ns ++ (sprd sub ++ sprd rest) → True) := fun _ _ _ _ _ _ _ => trivial
      clear r1 r2 r3 e3 e4 x4 x6 finish
      have HRS : Hid (sub.size + rest.size + 1 + ms.length ≤ s.size) := by unfold Hid; omega
      clear hZ
      cases hk2 : (h.k == 2) with
      | true =>
        have HS : Hid (sprd s = (ms ++ [h.nm]) ++ (sprd sub ++ sprd rest)) := by rw [Hid, HA.out, sprd_spread hk2]; simp
        have HOA : Hid (NOwn w.heap.size (wr.alloc (.cells #[.string h.nm] 9)) u3 ms) := NOwn.up HO.out ((Below.refl _ _).alloc (Nat.le_refl _) _)
        have hms : ms.length + 1 ≤ 1048576 := by have := HRS.out; omega
        have BA : Hid (Below w.heap.size w (wr.alloc (.cells #[.string h.nm] 9))) := HBW.out.alloc hbz _
        have HLT : Hid (∀ g, u3.ownBlock = some g → w.heap.size ≤ g) := fun g hg => (HO.out.lt g hg).1
        clear HA
        go_wp2_with (first | (at_builtin; revert hl) | fail)
        intro hl
        refine wpList_append_names rfl _ _ rfl w.heap.size u3 ms [h.nm] rfl HOA.out (some ⟨wr.heap.size, 0, none⟩) 1 rfl (one_name _ _) hms (by simp; omega) ?_
        intro a8 c8 w8 ho8 hg8 _
        have O8 : Hid (NOwn w.heap.size w8 (.slice a8 (ms.length + 1) c8) (ms ++ [h.nm])) := ho8
        have B8 : Hid (Below w.heap.size w w8) := BA.out.grown hg8 (by simp; omega) (fun g hg => HLT.out g hg)
        have l8 : (ms ++ [h.nm]).length = ms.length + 1 := by simp
        have hk5 := KC.out _ B8.out
        clear ho8 hg8 d0 d1 d2 d3 d4 d5 HOA HO HLT
        go_wp2_with fail
        refine (IS.out a3 c3 _ (K3.out _ B8.out) e2 E3.out (by have := HRS.out; omega)).mono ?_
        rintro e w9 ⟨⟨a9, c9, rfl, o9⟩, hb9⟩
        have B9 : Hid (Below w.heap.size w w9) := B8.out.trans (hb9.mono B8.out.size)
        have O89 : Hid (NOwn w.heap.size w9 (.slice a8 (ms.length + 1) c8) (ms ++ [h.nm])) := NOwn.up O8.out hb9
        have R9 : Hid (NRow 0 w9.heap.size w9 a9 (sprd sub)) := by
          obtain ⟨a, c, e, _, h⟩ := NOwn.row o9
          simp only [Value.slice.injEq] at e
          rw [e.1]; exact h
        have hz9 := B9.out.size
        have HLT8 : Hid (∀ g, (Value.slice a8 (ms.length + 1) c8).ownBlock = some g → w.heap.size ≤ g) := fun g hg => (O8.out.lt g hg).1
        clear hb9 o9 hk5
        go_wp2_with (first | (at_builtin; revert hl) | fail)
        intro hl
        refine wpList_append_names rfl _ _ rfl w.heap.size (.slice a8 (ms.length + 1) c8) (ms ++ [h.nm]) (sprd sub) rfl O89.out a9 c9 rfl R9.out (by have := HRS.out; simp; omega) hz9 ?_
        intro a7 c7 w7 ho7 hg7 _
        rw [l8] at ho7 ⊢
        have O7 : Hid (NOwn w.heap.size w7 (.slice a7 (ms.length + 1 + (sprd sub).length) c7) (ms ++ [h.nm] ++ sprd sub)) := ho7
        have B7 : Hid (Below w.heap.size w w7) := B9.out.grown hg7 hz9 (fun g hg => HLT8.out g hg)
        clear ho7 hg7
        go_wp2_with fail
        exact ⟨⟨k + 1, rest, ms ++ [h.nm] ++ sprd sub, HK2, by go_num, B7, by have := HRS.out; unfold Hid; simp; omega, E4, HF2, by rw [Hid, HS.out]; simp, O7⟩, by simp [intOf]; omega⟩
      | false =>
        have HS : Hid (sprd s = ms ++ (sprd sub ++ sprd rest)) := by rw [Hid, HA.out, sprd_field hk2]
        clear HA
        go_wp2_with fail
        refine (IS.out a3 c3 _ (K3.out _ HBW.out) e2 E3.out (by have := HRS.out; omega)).mono ?_
        rintro e w9 ⟨⟨a9, c9, rfl, o9⟩, hb9⟩
        have B9 : Hid (Below w.heap.size w w9) := HBW.out.trans (hb9.mono HBW.out.size)
        have O89 : Hid (NOwn w.heap.size w9 u3 ms) := NOwn.up HO.out hb9
        have R9 : Hid (NRow 0 w9.heap.size w9 a9 (sprd sub)) := by
          obtain ⟨a, c, e, _, h⟩ := NOwn.row o9
          simp only [Value.slice.injEq] at e
          rw [e.1]; exact h
        have hz9 := B9.out.size
        have HLT8 : Hid (∀ g, u3.ownBlock = some g → w.heap.size ≤ g) := fun g hg => (HO.out.lt g hg).1
        clear hb9 o9 d0 d1 d2 d3 d4 d5
        go_wp2_with (first | (at_builtin; revert hl) | fail)
        intro hl
        refine wpList_append_names rfl _ _ rfl w.heap.size _ ms (sprd sub) rfl O89.out a9 c9 rfl R9.out (by have := HRS.out; omega) hz9 ?_
        intro a7 c7 w7 ho7 hg7 _
        have O7 : Hid (NOwn w.heap.size w7 (.slice a7 (ms.length + (sprd sub).length) c7) (ms ++ sprd sub)) := ho7
        have B7 : Hid (Below w.heap.size w w7) := B9.out.grown hg7 hz9 (fun g hg => HLT8.out g hg)
        clear ho7 hg7
        go_wp2_with fail
        exact ⟨⟨k + 1, rest, ms ++ sprd sub, HK2, by go_num, B7, by have := HRS.out; unfold Hid; simp; omega, E4, HF2, by rw [Hid, HS.out]; simp, O7⟩, by simp [intOf]; omega⟩
end Go.Proofs.YtkjndghkimnjeaaGreat
