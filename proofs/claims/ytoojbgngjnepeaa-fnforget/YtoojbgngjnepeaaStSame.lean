/- SameAt: what both sides compute. -/
import Derived.Test.YtoojbgngjnepeaaStNums
import Derived.Test.YtoojbgngjnepeaaGRegionSix
namespace Go.Proofs.Ytoojbgngjnepeaa.G
open Go.ChangeShapes Go.WideShapes Go.ChangeAt Go.RowKit
set_option linter.unusedVariables false

def bothB (l : Chs) (n : Int) (l2 : Chs) (n2 : Int) : Bool := storeB l n && storeB l2 n2
def sameR (l : Chs) (n : Int) (l2 : Chs) (n2 : Int) : Bool := if bothB l n l2 n2 = true then decide (vals l n = vals l2 n2) else false
def sameC (l : Chs) (n : Int) (l2 : Chs) (n2 : Int) : Int := if bothB l n l2 n2 = true then 0 else 1
/-- Two stores that lie boxed, one behind the other. -/
def TwoAt (w W : World) (a a' : Option Addr) (c c' : Nat) (l l2 : Chs) (n n2 : Int) : Prop :=
  W.heap[w.heap.size]? = some (.cells #[.slice a l.length c, .int .i64 n] 25 (0, 0)) ∧ W.heap[w.heap.size + 1]? = some (.cells #[.slice a' l2.length c', .int .i64 n2] 25 (0, 0)) ∧ Below w.heap.size w W
theorem two_at (w : World) (a a' : Option Addr) (c c' : Nat) (l l2 : Chs) (n n2 : Int) : ∃ V, V = (w.alloc (.cells #[.slice a l.length c, .int .i64 n] 25)).alloc (.cells #[.slice a' l2.length c', .int .i64 n2] 25) ∧ V.heap.size = w.heap.size + 2 ∧ TwoAt w V a a' c c' l l2 n n2 ∧ ∀ W, Below V.heap.size V W → TwoAt w W a a' c c' l l2 n n2 := by
  refine ⟨_, rfl, by simp, ?_, ?_⟩
  have key : TwoAt w ((w.alloc (.cells #[.slice a l.length c, .int .i64 n] 25)).alloc (.cells #[.slice a' l2.length c', .int .i64 n2] 25)) a a' c c' l l2 n n2 := by
    refine ⟨?_, ?_, ?_⟩
    · rw [Below.heap_alloc _ _ _ (by simp)]; exact heap_alloc_new _ _
    · have := heap_alloc_new (w.alloc (.cells #[.slice a l.length c, .int .i64 n] 25)) (.cells #[.slice a' l2.length c', .int .i64 n2] 25)
      simpa using this
    · exact ((Below.refl _ _).alloc (Nat.le_refl _) _).alloc (by simp) _
  · exact key
  · intro W h
    have key : TwoAt w ((w.alloc (.cells #[.slice a l.length c, .int .i64 n] 25)).alloc (.cells #[.slice a' l2.length c', .int .i64 n2] 25)) a a' c c' l l2 n n2 := by
      refine ⟨?_, ?_, ?_⟩
      · rw [Below.heap_alloc _ _ _ (by simp)]; exact heap_alloc_new _ _
      · have := heap_alloc_new (w.alloc (.cells #[.slice a l.length c, .int .i64 n] 25)) (.cells #[.slice a' l2.length c', .int .i64 n2] 25)
        simpa using this
      · exact ((Below.refl _ _).alloc (Nat.le_refl _) _).alloc (by simp) _
    exact ⟨(h.block _ (by simp; omega)).trans key.1, (h.block _ (by simp)).trans key.2.1, key.2.2.trans (h.mono (by simp; omega))⟩
set_option maxHeartbeats 4000000 in
theorem impl_sameAt (a a' : Option Addr) (c c' : Nat) (l l2 : Chs) (n n2 : Int) (w : World) (hr : ChRow 0 w.heap.size w a l) (hr2 : ChRow 0 w.heap.size w a' l2) (hbd : ChsBd 1048576 l) (hbd2 : ChsBd 1048576 l2) :
    Calls Try.prog 12 #[.agg #[.slice a l.length c, .int .i64 n], .agg #[.slice a' l2.length c', .int .i64 n2]] w fun e w' => e = .returned (.tuple #[.bool (sameR l n l2 n2), .int .i64 (sameC l n l2 n2)]) ∧ Below w.heap.size w w' := by
  have HR : Hid (∀ W0, Below w.heap.size w W0 → ChRow 0 W0.heap.size W0 a l ∧ ChRow 0 W0.heap.size W0 a' l2) := fun W0 hB => ⟨ChRow.up hr hB, ChRow.up hr2 hB⟩
  have HE : Hid _ := hbd
  have HE2 : Hid _ := hbd2
  clear hr hr2 hbd hbd2
  obtain ⟨V, hV, zV, tV, kV⟩ := two_at w a a' c c' l l2 n n2
  have KV : Hid _ := kV
  have TV : Hid _ := tV
  clear kV tV
  go_enter Try.func12, Try.ntmps12
  go_wp2_with fail
  rw [← hV]
  clear hV
  refine (impl_storeOK a c l n _ (HR.out _ TV.out.2.2).1 HE.out).mono ?_
  rintro e w1 ⟨rfl, hb1⟩
  have T1 := KV.out _ hb1
  have x0 := fun o => row_cell T1.1 o
  have x1 := fun o => row_cell T1.2.1 o
  have Q1 : Hid (Below V.heap.size V w1) := hb1
  have z1 := hb1.size
  clear hb1 T1
  cases hs : storeB l n
  · have HN : Hid (false = sameR l n l2 n2 ∧ (1 : Int) = sameC l n l2 n2) := by simp [Hid, sameR, sameC, bothB, hs]
    have Q : Hid (Below w.heap.size w w1) := (KV.out _ Q1.out).2.2
    clear hs
    go_wp2_with fail
    go_ret2
    exact ⟨ret_b2 HN.out.1 HN.out.2, Q.out⟩
  go_wp2_with fail
  refine (impl_storeOK a' c' l2 n2 _ (HR.out _ (KV.out _ Q1.out).2.2).2 HE2.out).mono ?_
  rintro e w2 ⟨rfl, hb2⟩
  have Q2 : Hid (Below V.heap.size V w2) := Q1.out.trans (hb2.mono (by omega))
  have z2 := hb2.size
  clear hb2 x0 x1
  cases hs2 : storeB l2 n2
  · have HN : Hid (false = sameR l n l2 n2 ∧ (1 : Int) = sameC l n l2 n2) := by simp [Hid, sameR, sameC, bothB, hs2]
    have Q : Hid (Below w.heap.size w w2) := (KV.out _ Q2.out).2.2
    clear hs hs2
    go_wp2_with fail
    go_ret2
    exact ⟨ret_b2 HN.out.1 HN.out.2, Q.out⟩
  have HN : Hid (decide (vals l n = vals l2 n2) = sameR l n l2 n2 ∧ (0 : Int) = sameC l n l2 n2) := by simp [Hid, sameR, sameC, bothB, hs, hs2]
  have HS : Hid (∀ i (h : i < l.length), Rise l[i]) := fun i h => store_rise hs h
  have HS2 : Hid (∀ i (h : i < l2.length), Rise l2[i]) := fun i h => store_rise hs2 h
  have hl1 := (storeB_all hs).1
  have hl2 := (storeB_all hs2).1
  have HL : Hid (l.length = l2.length) := by unfold Hid; omega
  clear hs hs2 hl1 hl2
  go_wp2_with fail
  refine region_rel4 (n := 5) (k := 2) (by omega) (by kernel_rfl) (by kernel_rfl) (by kernel_rfl) (fun u => ⟨#[.agg #[.slice a l.length c, .int .i64 n], .agg #[.slice a' l2.length c', .int .i64 n2], .pointer (some ⟨w.heap.size, 0, none⟩), .pointer (some ⟨w.heap.size + 1, 0, none⟩), .bool false, .int .i64 0, .agg #[.slice a l.length c, .int .i64 n], .bool true, .bool false, .bool false, .agg #[.slice a' l2.length c', .int .i64 n2], .bool true, .bool false, .bool false, u 14, u 15, u 16, u 17, u 18], []⟩) (fun _ => undef) (fun i => 14 + i) (fun i j _ _ h => by omega)
    (fun i v W => match i with | 0 => v = .agg #[.slice a l.length c, .int .i64 n] | 1 => ∃ x, v = .slice x l.length l.length ∧ NuRow 0 W.heap.size W x (vals l n) | 2 => v = .agg #[.slice a' l2.length c', .int .i64 n2] | 3 => ∃ x, v = .slice x l2.length l2.length ∧ NuRow 0 W.heap.size W x (vals l2 n2) | _ => v = .bool (decide (vals l n = vals l2 n2))) (fun _ _ => True) ?up trivial ?step ?last
  case up =>
    intro i v w5 w6 hv hbb
    split at hv
    · exact hv
    · obtain ⟨x, h1, h2⟩ := hv; exact ⟨x, h1, NuRow.up h2 hbb⟩
    · exact hv
    · obtain ⟨x, h1, h2⟩ := hv; exact ⟨x, h1, NuRow.up h2 hbb⟩
    · exact hv
  case step =>
    intro u W i hi hbw _ hdep
    have QW : Hid (Below V.heap.size V W) := Q2.out.trans (hbw.mono (by omega))
    have T := KV.out _ QW.out
    have e0 := fun o => row_cell T.1 o
    have e1 := fun o => row_cell T.2.1 o
    have RW : Hid _ := HR.out _ T.2.2
    clear T
    have hcase : i = 0 ∨ i = 1 ∨ i = 2 ∨ i = 3 ∨ i = 4 := by omega
    rcases hcase with rfl | rfl | rfl | rfl | rfl
    · refine wpOp_step rfl (fun K hK => ?_)
      clear hdep
      go_simp
      exact hK _ _ ⟨_, rfl, Below.refl _ _, rfl, trivial⟩
    · have d0 : u 14 = .agg #[.slice a l.length c, .int .i64 n] := hdep _ rfl ⟨0, .data⟩ (by simp) rfl
      refine wpOp_step rfl (fun K hK => ?_)
      clear hdep e0 e1
      go_simp
      refine (values_now a c l n _ RW.out.1 HE.out HS.out).mono ?_
      rintro e w8 ⟨x, rfl, r8, hb8⟩
      exact hK _ _ ⟨_, by simp [upd, d0], hb8, ⟨x, rfl, NuRow.wide r8 (Nat.zero_le _) (Nat.le_refl _)⟩, trivial⟩
    · refine wpOp_step rfl (fun K hK => ?_)
      clear hdep
      go_simp
      exact hK _ _ ⟨_, rfl, Below.refl _ _, rfl, trivial⟩
    · have d0 : u 16 = .agg #[.slice a' l2.length c', .int .i64 n2] := hdep _ rfl ⟨2, .data⟩ (by simp) rfl
      refine wpOp_step rfl (fun K hK => ?_)
      clear hdep e0 e1
      go_simp
      refine (values_now a' c' l2 n2 _ RW.out.2 HE2.out HS2.out).mono ?_
      rintro e w8 ⟨x, rfl, r8, hb8⟩
      exact hK _ _ ⟨_, by simp [upd, d0], hb8, ⟨x, rfl, NuRow.wide r8 (Nat.zero_le _) (Nat.le_refl _)⟩, trivial⟩
    · obtain ⟨x, d1, r1⟩ : ∃ x, u 15 = .slice x l.length l.length ∧ NuRow 0 W.heap.size W x (vals l n) := hdep _ rfl ⟨1, .data⟩ (by simp) rfl
      obtain ⟨y, d3, r3⟩ : ∃ x, u 17 = .slice x l2.length l2.length ∧ NuRow 0 W.heap.size W x (vals l2 n2) := hdep _ rfl ⟨3, .data⟩ (by simp) rfl
      have R1 : Hid _ := r1
      have R3 : Hid _ := r3
      have E1 : Hid (l.length = (vals l n).length) := (vals_len _ _).symm
      have E2 : Hid (l2.length = (vals l2 n2).length) := (vals_len _ _).symm
      have hlen : l.length ≤ 1048576 := HE.out.1
      refine wpOp_step rfl (fun K hK => ?_)
      clear hdep e0 e1 r1 r3
      go_simp
      rw [E1.out, E2.out]
      refine (ints_equal x y _ _ (vals l n) (vals l2 n2) _ R1.out R3.out (by rw [← E1.out]; exact hlen) (by rw [← E1.out, ← E2.out]; exact HL.out)).mono ?_
      rintro e w8 ⟨rfl, hb8⟩
      exact hK _ _ ⟨_, by simp [upd, d1, d3, ← E1.out, ← E2.out], hb8, rfl, trivial⟩
  case last =>
    intro u W hbw _ hp
    have d4 : u 18 = .bool (decide (vals l n = vals l2 n2)) := hp 4 (by omega)
    have QW : Hid (Below w.heap.size w W) := (KV.out _ (Q2.out.trans (hbw.mono (by omega)))).2.2
    obtain ⟨z, hz⟩ : ∃ z, z = decide (vals l n = vals l2 n2) := ⟨_, rfl⟩
    rw [← hz] at d4 HN
    clear hp hz
    unfold wpTail
    refine wpOp_step rfl (fun K hK => ?_)
    go_simp
    refine hK _ _ ?_
    clear hK
    unfold wpTail
    refine wpOp_step rfl (fun K hK => ?_)
    go_simp
    refine hK _ _ ?_
    clear hK
    unfold wpTail
    go_wp2_with fail
    go_ret2
    exact ⟨ret_b2 HN.out.1 HN.out.2, QW.out⟩
end Go.Proofs.Ytoojbgngjnepeaa.G
