/- Fragments that come to themselves: the program's way. -/
import Derived.Test.YtajjaddlalbnmaaVaApp
import Derived.Maps.RangeWalk
import Derived.Deep.CutBlock
namespace Go.Proofs.Ytajjaddlalbnmaa
open Go.ChangeShapes Go.WideShapes Go.ChangeAt Go.RowKit Go.Maps
open Go.WideMaps (keyOf_string_mk)
set_option linter.unusedVariables false

def SprIn (s : Sels) : Prop := ∀ (w0 : World) (B : Nat) (L : List De) (a : Option Addr) (c : Nat) (w : World), FrHeld w0 w B L → SelRow 0 w.heap.size w a s → s.len ≤ 1048576 → SelsBd 1048576 s →
    Calls Try.prog 36 #[.map (some B), .slice a s.len c] w fun e w' => e = .returned (.bool ((sprd s).any (hasNm L))) ∧ Below w.heap.size w w'
theorem sprd_field {h : Hd} {sub rest : Sels} (hk : (h.k == 2) = false) : sprd (.cons h sub rest) = sprd sub ++ sprd rest := by simp [sprd, hk]
theorem sprd_spread {h : Hd} {sub rest : Sels} (hk : (h.k == 2) = true) : sprd (.cons h sub rest) = h.nm :: (sprd sub ++ sprd rest) := by simp [sprd, hk]
set_option maxHeartbeats 4000000 in
set_option maxRecDepth 40000 in
theorem spread_in (s : Sels) : SprIn s := by
  induction hN : s.size using Nat.strongRecOn generalizing s with
  | _ N ih =>
  subst hN
  intro w0 B L a c w hF hr hl hbd
  have IH : Hid (∀ sub : Sels, sub.size < s.size → SprIn sub) := fun sub h => ih sub.size h sub rfl
  have HR : Hid (SelFrom 0 w.heap.size w a 0 s) := hr.from_
  have HB : Hid (SelsBd 1048576 s) := hbd
  have HF : Hid (FrHeld w0 w B L) := hF
  have hBl := hF.lt
  clear hr ih hbd hF
  go_enter Try.func36, Try.ntmps36
  go_wp2_with fail
  go_loopw [9] (fun i w' => ∃ (k : Nat) (rest : Sels), Hid (s.len = k + rest.len) ∧ i = .int .i64 k ∧ Hid (Below w.heap.size w w') ∧ Hid (rest.size ≤ s.size) ∧ Hid (SelsBd 1048576 rest) ∧ Hid (SelFrom 0 w.heap.size w a k rest) ∧ Hid ((sprd s).any (hasNm L) = (sprd rest).any (hasNm L))) (fun i _ => s.len - (intOf i).toNat)
  case atStart => exact ⟨0, s, by simp [Hid], rfl, Below.refl _ _, Nat.le_refl _, HB, HR, rfl⟩
  case round =>
    obtain ⟨k, rest, HK, rfl, HBW, HZ, HD, HFR, HA⟩ := hrel
    cases rest with
    | nil =>
      have hk' : ¬ (k : Int) < s.len := by rw [HK.out]; simp only [Sels.len]; omega
      have HAE : Hid ((sprd s).any (hasNm L) = false) := by rw [Hid, HA.out]; rfl
      clear HA
      go_wp2_with fail
      go_ret
      exact ⟨by rw [HAE.out]; rfl, HBW.out⟩
    | cons h sub rest =>
      have hlt : (k : Int) < s.len := by rw [HK.out]; simp only [Sels.len]; omega
      have HK2 : Hid (s.len = k + 1 + rest.len) := by rw [Hid, HK.out]; simp only [Sels.len]; omega
      obtain ⟨b, o, a1, c1, a2, c2, a3, c3, ha, _, hbl, d0, d1, d2, d3, d4, d5, r1, r2, r3, _⟩ := (HFR.out.keep (Below.agree HBW.out (Nat.le_refl _))).step
      have HF2 : Hid (SelFrom 0 w.heap.size w a (k + 1) rest) := SelFrom.next HFR.out
      subst ha
      have hbz := HBW.out.size
      have K3 : Hid (∀ W0, Below wr.heap.size wr W0 → SelRow 0 W0.heap.size W0 a3 sub) := fun W0 hB => SelRow.up (SelRow.wide r3 (Nat.le_refl _) hbz) hB
      obtain ⟨⟨x1, x2, x3, x4, x5, x6⟩, e2, e3, e4⟩ := HD.out
      have E3 : Hid (SelsBd 1048576 sub) := e3
      have E4 : Hid (SelsBd 1048576 rest) := e4
      have HZ2 : Hid (rest.size ≤ s.size) := by have := HZ.out; simp only [Sels.size] at this; unfold Hid; omega
      have IS : Hid (SprIn sub) := IH.out sub (by have := HZ.out; simp only [Sels.size] at this; omega)
      have hbl' : b < wr.heap.size := by omega
      have HFW : Hid (∀ W, Below wr.heap.size wr W → FrHeld w0 W B L) := fun W hW => HF.out.keep ((hW.block _ (by omega)).trans (HBW.out.block _ hBl))
      clear r1 r2 r3 e3 e4 x4 x6
      obtain ⟨V, hV⟩ : ∃ V, V = wr.alloc (.cells #[.int .i64 h.k, .string h.al, .string h.nm, .slice a1 h.args.length c1, .slice a2 h.dirs.length c2, .slice a3 sub.len c3] 63) := ⟨_, rfl⟩
      have BV : Below wr.heap.size wr V := by rw [hV]; exact (Below.refl _ _).alloc (Nat.le_refl _) _
      have c0 : V.heap[wr.heap.size]? = some (.cells #[.int .i64 h.k, .string h.al, .string h.nm, .slice a1 h.args.length c1, .slice a2 h.dirs.length c2, .slice a3 sub.len c3] 63 (0, 0)) := by rw [hV]; exact heap_alloc_new _ _
      have zV := (Array.getElem?_eq_some_iff.1 c0).1
      have KV : Hid (∀ W, Below V.heap.size V W → W.heap[wr.heap.size]? = some (.cells #[.int .i64 h.k, .string h.al, .string h.nm, .slice a1 h.args.length c1, .slice a2 h.dirs.length c2, .slice a3 sub.len c3] 63 (0, 0)) ∧ FrHeld w0 W B L ∧ SelRow 0 W.heap.size W a3 sub ∧ Below w.heap.size w W) := fun W hW =>
        have hw := BV.trans (hW.mono BV.size)
        ⟨(hW.block _ zV).trans c0, HFW.out _ hw, K3.out _ hw, HBW.out.trans (hw.mono hbz)⟩
      have x0 := fun o => row_cell c0 o
      clear c0 BV K3 HFW
      go_upto_region 4 with fail
      rw [← hV]
      clear hV d0 d1 d2 d3 d4 d5
      have sub_step : Hid (∀ W, Below V.heap.size V W → Calls Try.prog 36 #[.map (some B), .slice a3 sub.len c3] W fun e w' => e = .returned (.bool ((sprd sub).any (hasNm L))) ∧ Below W.heap.size W w') := fun W hW => IS.out w0 B L a3 c3 W (KV.out W hW).2.1 (KV.out W hW).2.2.1 e2 E3.out
      have goOn : Hid (∀ W, Below V.heap.size V W → Below w.heap.size w W) := fun W hW => (KV.out W hW).2.2.2
      cases hk2 : (h.k == 2) with
      | true =>
        have HS : Hid ((sprd s).any (hasNm L) = (hasNm L h.nm || ((sprd sub).any (hasNm L) || (sprd rest).any (hasNm L)))) := by rw [Hid, HA.out, sprd_spread hk2, List.any_cons, List.any_append]
        have hq := frs_has w0 B L h.nm V (KV.out _ (Below.refl _ _)).2.1 (by unfold maxLen; omega)
        clear HA
        cases hh : hasNm L h.nm with
        | true =>
          rw [hh] at hq HS
          have HQ : Hid _ := hq
          clear hq
          go_wp2_with fail
          refine Calls.mono HQ.out ?_
          rintro e w1 ⟨rfl, bq⟩
          have GB : Hid _ := goOn.out _ bq
          clear bq x0
          go_wp2_with fail
          go_ret
          exact ⟨by rw [HS.out]; rfl, GB.out⟩
        | false =>
        rw [hh, Bool.false_or] at HS
        rw [hh] at hq
        have HQ : Hid _ := hq
        clear hq
        go_wp2_with fail
        refine Calls.mono HQ.out ?_
        rintro e w1 ⟨rfl, bq⟩
        have Q1 : Hid (Below V.heap.size V w1) := bq
        clear bq x0
        have x0 := fun o => row_cell (KV.out _ Q1.out).1 o
        have hs := sub_step.out w1 Q1.out
        cases hsb : (sprd sub).any (hasNm L) with
        | true =>
          rw [hsb] at hs HS
          have HSS : Hid _ := hs
          clear hs
          go_wp2_with fail
          refine Calls.mono HSS.out ?_
          rintro e w2 ⟨rfl, bq⟩
          have GB : Hid _ := goOn.out _ (Q1.out.trans (bq.mono Q1.out.size))
          clear bq x0
          go_wp2_with fail
          go_ret
          exact ⟨by rw [HS.out]; rfl, GB.out⟩
        | false =>
          rw [hsb, Bool.false_or] at HS
          rw [hsb] at hs
          have HSS : Hid _ := hs
          clear hs
          go_wp2_with fail
          refine Calls.mono HSS.out ?_
          rintro e w2 ⟨rfl, bq⟩
          have GB : Hid _ := goOn.out _ (Q1.out.trans (bq.mono Q1.out.size))
          clear bq x0
          go_wp2_with fail
          exact ⟨⟨k + 1, rest, HK2, by go_num, GB, HZ2, E4, HF2, HS⟩, by simp [intOf]; omega⟩
      | false =>
        have HS : Hid ((sprd s).any (hasNm L) = ((sprd sub).any (hasNm L) || (sprd rest).any (hasNm L))) := by rw [Hid, HA.out, sprd_field hk2, List.any_append]
        clear HA
        have hs := sub_step.out V (Below.refl _ _)
        cases hsb : (sprd sub).any (hasNm L) with
        | true =>
          rw [hsb] at hs HS
          have HSS : Hid _ := hs
          clear hs
          go_wp2_with fail
          refine Calls.mono HSS.out ?_
          rintro e w2 ⟨rfl, bq⟩
          have GB : Hid _ := goOn.out _ bq
          clear bq x0
          go_wp2_with fail
          go_ret
          exact ⟨by rw [HS.out]; rfl, GB.out⟩
        | false =>
          rw [hsb, Bool.false_or] at HS
          rw [hsb] at hs
          have HSS : Hid _ := hs
          clear hs
          go_wp2_with fail
          refine Calls.mono HSS.out ?_
          rintro e w2 ⟨rfl, bq⟩
          have GB : Hid _ := goOn.out _ bq
          clear bq x0
          go_wp2_with fail
          exact ⟨⟨k + 1, rest, HK2, by go_num, GB, HZ2, E4, HF2, HS⟩, by simp [intOf]; omega⟩
end Go.Proofs.Ytajjaddlalbnmaa
