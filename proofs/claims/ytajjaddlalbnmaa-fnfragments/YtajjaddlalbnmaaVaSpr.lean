/- The names that a set spreads: the specification's list. -/
import Derived.Test.YtajjaddlalbnmaaVaApp
import Derived.Test.YtajjaddlalbnmaaVaCycImpl
namespace Go.Proofs.Ytajjaddlalbnmaa
open Go.ChangeShapes Go.WideShapes Go.ChangeAt Go.RowKit
set_option linter.unusedVariables false

def SpSels (s : Sels) : Prop := ∀ (a : Option Addr) (c : Nat) (w : World), SelRow 0 w.heap.size w a s → s.len ≤ 1048576 → SelsBd 1048576 s → s.size ≤ 1048576 →
    Calls Try.prog 37 #[.slice a s.len c] w fun e w' => (∃ a' c', e = .returned (.slice a' (sprd s).length c') ∧ NOwn w.heap.size w' (.slice a' (sprd s).length c') (sprd s)) ∧ Below w.heap.size w w'
set_option maxHeartbeats 4000000 in
set_option maxRecDepth 40000 in
theorem sp_sels (s : Sels) : SpSels s := by
  induction hN : s.size using Nat.strongRecOn generalizing s with
  | _ N ih =>
  subst hN
  intro a c w hr hl hbd hsize
  have IH : Hid (∀ sub : Sels, sub.size < s.size → SpSels sub) := fun sub h => ih sub.size h sub rfl
  have HR : Hid (SelFrom 0 w.heap.size w a 0 s) := hr.from_
  have HB : Hid (SelsBd 1048576 s) := hbd
  have HSZ : Hid (s.size ≤ 1048576) := hsize
  clear hr ih hbd hsize
  go_enter Try.func37, Try.ntmps37
  go_wp2_with fail
  go_loopw [3, 4] (fun v i w' => ∃ (k : Nat) (rest : Sels) (ms : List ByteArray), Hid (s.len = k + rest.len) ∧ i = .int .i64 k ∧ Hid (Below w.heap.size w w') ∧ Hid (ms.length + rest.size ≤ s.size) ∧ Hid (SelsBd 1048576 rest) ∧ Hid (SelFrom 0 w.heap.size w a k rest) ∧ Hid (sprd s = ms ++ sprd rest) ∧ Hid (NOwn w.heap.size w' v ms)) (fun _ i _ => s.len - (intOf i).toNat)
  case atStart => exact ⟨0, s, [], by simp [Hid], rfl, (Below.refl _ _).alloc (Nat.le_refl _) _, by simp [Hid], HB, HR, rfl, NOwn.made w (Nat.le_refl _)⟩
  case round =>
    obtain ⟨k, rest, ms, HK, rfl, HBW, HZ, HD, HFR, HA, HO⟩ := hrel
    cases rest with
    | nil =>
      have hk' : ¬ (k : Int) < s.len := by rw [HK.out]; simp only [Sels.len]; omega
      have HAE : Hid (sprd s = ms) := by rw [Hid, HA.out]; simp [sprd]
      obtain ⟨a9, c9, rfl, _⟩ := NOwn.row HO.out
      clear HA
      go_wp2_with fail
      go_ret
      exact ⟨⟨a9, c9, by rw [HAE.out]; rfl, by rw [HAE.out]; exact HO.out⟩, HBW.out⟩
    | cons h sub rest =>
      have hlt : (k : Int) < s.len := by rw [HK.out]; simp only [Sels.len]; omega
      have HK2 : Hid (s.len = k + 1 + rest.len) := by rw [Hid, HK.out]; simp only [Sels.len]; omega
      obtain ⟨b, o, a1, c1, a2, c2, a3, c3, ha, _, hbl, d0, d1, d2, d3, d4, d5, r1, r2, r3, _⟩ := (HFR.out.keep (Below.agree HBW.out (Nat.le_refl _))).step
      have HF2 : Hid (SelFrom 0 w.heap.size w a (k + 1) rest) := SelFrom.next HFR.out
      subst ha
      have hbz := HBW.out.size
      have K3 : Hid (∀ W0, Below w.heap.size w W0 → SelRow 0 W0.heap.size W0 a3 sub) := fun W0 hB => by
        obtain ⟨b', o', _, _, _, _, a3', c3', ha', _, hb', _, _, _, _, _, e5, _, _, r3', _⟩ := HFR.out.step
        simp only [Option.some.injEq, Addr.mk.injEq, and_true] at ha'
        obtain ⟨rfl, rfl⟩ := ha'
        have : some (Value.slice a3' sub.len c3') = some (.slice a3 sub.len c3) := e5.symm.trans ((HBW.out.cell (p := ⟨b, o + k * 6 + 5, none⟩) hbl).symm.trans d5)
        simp only [Option.some.injEq, Value.slice.injEq] at this
        rw [← this.1]
        exact SelRow.up r3' hB
      have KC : Hid (∀ W0, Below w.heap.size w W0 → W0.cell? ⟨b, o + k * 6 + 5, none⟩ = some (.slice a3 sub.len c3)) := fun W0 hB => (hB.cell (p := ⟨b, o + k * 6 + 5, none⟩) hbl).trans ((HBW.out.cell (p := ⟨b, o + k * 6 + 5, none⟩) hbl).symm.trans d5)
      obtain ⟨⟨x1, x2, x3, x4, x5, x6⟩, e2, e3, e4⟩ := HD.out
      have E3 : Hid (SelsBd 1048576 sub) := e3
      have E4 : Hid (SelsBd 1048576 rest) := e4
      have hZ : ms.length + (1 + sub.size + rest.size) ≤ s.size := HZ.out
      have hsb : (sprd sub).length ≤ sub.size := sprd_len sub
      have hss : s.size ≤ 1048576 := HSZ.out
      have IS : Hid (SpSels sub) := IH.out sub (by omega)
      have finish : Hid (∀ (W : World) (v : Value) (ns : List ByteArray), Below w.heap.size w W → NOwn w.heap.size W v ns → ns.length + sub.size + rest.size ≤ s.size → sprd s = ns ++ (sprd sub ++ sprd rest) → True) := fun _ _ _ _ _ _ _ => trivial
      clear r1 r2 r3 e3 e4 x4 x6 finish
      have HRS : Hid (sub.size + rest.size + 1 + ms.length ≤ s.size) := by unfold Hid; omega
      clear hZ
      cases hk2 : (h.k == 2) with
      | true =>
        have HS : Hid (sprd s = (ms ++ [h.nm]) ++ (sprd sub ++ sprd rest)) := by rw [Hid, HA.out, sprd_spread hk2]; simp
        have HOA : Hid (NOwn w.heap.size (wr.alloc (.cells #[.string h.nm] 9)) u3 ms) := NOwn.up HO.out ((Below.refl _ _).alloc (Nat.le_refl _) _)
        have hms : ms.length + 1 ≤ 1048576 := by have := HRS.out; omega
        have BA : Hid (Below w.heap.size w (wr.alloc (.cells #[.string h.nm] 9))) := HBW.out.alloc hbz _
        have HLT : Hid (∀ g, u3.ownBlock = some g → w.heap.size ≤ g) := fun g hg => (HO.out.lt g hg).1
        clear HA
        go_wp2_with (first | (at_builtin; revert hl) | fail)
        intro hl
        refine wpList_append_names rfl _ _ rfl w.heap.size u3 ms [h.nm] rfl HOA.out (some ⟨wr.heap.size, 0, none⟩) 1 rfl (one_name _ _) hms (by simp; omega) ?_
        intro a8 c8 w8 ho8 hg8 _
        have O8 : Hid (NOwn w.heap.size w8 (.slice a8 (ms.length + 1) c8) (ms ++ [h.nm])) := ho8
        have B8 : Hid (Below w.heap.size w w8) := BA.out.grown hg8 (by simp; omega) (fun g hg => HLT.out g hg)
        have l8 : (ms ++ [h.nm]).length = ms.length + 1 := by simp
        have hk5 := KC.out _ B8.out
        clear ho8 hg8 d0 d1 d2 d3 d4 d5 HOA HO HLT
        go_wp2_with fail
        refine (IS.out a3 c3 _ (K3.out _ B8.out) e2 E3.out (by have := HRS.out; omega)).mono ?_
        rintro e w9 ⟨⟨a9, c9, rfl, o9⟩, hb9⟩
        have B9 : Hid (Below w.heap.size w w9) := B8.out.trans (hb9.mono B8.out.size)
        have O89 : Hid (NOwn w.heap.size w9 (.slice a8 (ms.length + 1) c8) (ms ++ [h.nm])) := NOwn.up O8.out hb9
        have R9 : Hid (NRow 0 w9.heap.size w9 a9 (sprd sub)) := by
          obtain ⟨a, c, e, _, h⟩ := NOwn.row o9
          simp only [Value.slice.injEq] at e
          rw [e.1]; exact h
        have hz9 := B9.out.size
        have HLT8 : Hid (∀ g, (Value.slice a8 (ms.length + 1) c8).ownBlock = some g → w.heap.size ≤ g) := fun g hg => (O8.out.lt g hg).1
        clear hb9 o9 hk5
        go_wp2_with (first | (at_builtin; revert hl) | fail)
        intro hl
        refine wpList_append_names rfl _ _ rfl w.heap.size (.slice a8 (ms.length + 1) c8) (ms ++ [h.nm]) (sprd sub) rfl O89.out a9 c9 rfl R9.out (by have := HRS.out; simp; omega) hz9 ?_
        intro a7 c7 w7 ho7 hg7 _
        rw [l8] at ho7 ⊢
        have O7 : Hid (NOwn w.heap.size w7 (.slice a7 (ms.length + 1 + (sprd sub).length) c7) (ms ++ [h.nm] ++ sprd sub)) := ho7
        have B7 : Hid (Below w.heap.size w w7) := B9.out.grown hg7 hz9 (fun g hg => HLT8.out g hg)
        clear ho7 hg7
        go_wp2_with fail
        exact ⟨⟨k + 1, rest, ms ++ [h.nm] ++ sprd sub, HK2, by go_num, B7, by have := HRS.out; unfold Hid; simp; omega, E4, HF2, by rw [Hid, HS.out]; simp, O7⟩, by simp [intOf]; omega⟩
      | false =>
        have HS : Hid (sprd s = ms ++ (sprd sub ++ sprd rest)) := by rw [Hid, HA.out, sprd_field hk2]
        clear HA
        go_wp2_with fail
        refine (IS.out a3 c3 _ (K3.out _ HBW.out) e2 E3.out (by have := HRS.out; omega)).mono ?_
        rintro e w9 ⟨⟨a9, c9, rfl, o9⟩, hb9⟩
        have B9 : Hid (Below w.heap.size w w9) := HBW.out.trans (hb9.mono HBW.out.size)
        have O89 : Hid (NOwn w.heap.size w9 u3 ms) := NOwn.up HO.out hb9
        have R9 : Hid (NRow 0 w9.heap.size w9 a9 (sprd sub)) := by
          obtain ⟨a, c, e, _, h⟩ := NOwn.row o9
          simp only [Value.slice.injEq] at e
          rw [e.1]; exact h
        have hz9 := B9.out.size
        have HLT8 : Hid (∀ g, u3.ownBlock = some g → w.heap.size ≤ g) := fun g hg => (HO.out.lt g hg).1
        clear hb9 o9 d0 d1 d2 d3 d4 d5
        go_wp2_with (first | (at_builtin; revert hl) | fail)
        intro hl
        refine wpList_append_names rfl _ _ rfl w.heap.size _ ms (sprd sub) rfl O89.out a9 c9 rfl R9.out (by have := HRS.out; omega) hz9 ?_
        intro a7 c7 w7 ho7 hg7 _
        have O7 : Hid (NOwn w.heap.size w7 (.slice a7 (ms.length + (sprd sub).length) c7) (ms ++ sprd sub)) := ho7
        have B7 : Hid (Below w.heap.size w w7) := B9.out.grown hg7 hz9 (fun g hg => HLT8.out g hg)
        clear ho7 hg7
        go_wp2_with fail
        exact ⟨⟨k + 1, rest, ms ++ sprd sub, HK2, by go_num, B7, by have := HRS.out; unfold Hid; simp; omega, E4, HF2, by rw [Hid, HS.out]; simp, O7⟩, by simp [intOf]; omega⟩
end Go.Proofs.Ytajjaddlalbnmaa
