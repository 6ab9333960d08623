/- The program's Forget: its two answers. -/
import Derived.Test.YtoojbgngjnepeaaStFgTwo
import Derived.Test.YtoojbgngjnepeaaGRegionFive
import Derived.Deep.CutRange
namespace Go.Proofs.Ytoojbgngjnepeaa.G
open Go.ChangeShapes Go.WideShapes Go.ChangeAt Go.RowKit
set_option linter.unusedVariables false

/-- Beside one block nothing has turned; that block holds one thing before an operation, another behind it. -/
def JF (R : Nat) (U : World) (x : Nat) (X0 X1 : Array Value) (T : TypeId) (L : Array Bool) (W : World) : Prop := KeptS R (R + 1) U W ∧ W.heap[R]? = some (.cells (if L.getD x false = true then X1 else X0) T (0, 0))
theorem JF.set {R : Nat} {U : World} {x : Nat} {X0 X1 : Array Value} {T : TypeId} {L : Array Bool} {W W' : World} (h : JF R U x X0 X1 T L W) {i : Nat} (hi : i ≠ x) (hR : R < U.heap.size) (hb : Below W.heap.size W W') : JF R U x X0 X1 T (L.setIfInBounds i true) W' := by
  refine ⟨h.1.trans (KeptS.of hb), ?_⟩
  rw [getD_set_ne false hi]
  exact (hb.block R (by have := h.1.size; omega)).trans h.2
theorem JF.block {R : Nat} {U : World} {x : Nat} {X0 X1 : Array Value} {T : TypeId} {L : Array Bool} {W : World} (h : JF R U x X0 X1 T L W) {b : Nat} (hb : b < U.heap.size) (hn : b ≠ R) : W.heap[b]? = U.heap[b]? := h.1.block b hb (by omega)
theorem count_versions_b (a : Option Addr) (c : Nat) (l : Chs) (now : Int) (w : World) (hr : ChRow 0 w.heap.size w a l) (hbd : ChsBd 1048576 l) :
    Calls Try.prog 20 #[.agg #[.slice a l.length c, .int .i64 now]] w fun e w' => e = .returned (.int .i64 (sizeN l)) ∧ Below w.heap.size w w' :=
  (count_versions a c l now w hr hbd).mono (by rintro e w' ⟨rfl, rfl⟩; exact ⟨rfl, (Below.refl _ _).alloc (Nat.le_refl _) _⟩)
set_option maxHeartbeats 2000000 in
theorem impl_forget_no (a : Option Addr) (c : Nat) (l : Chs) (now low : Int) (w : World) (hr : ChRow 0 w.heap.size w a l) (hbd : ChsBd 1048576 l) (h0 : hourN l now low ≠ 0) :
    Calls Try.prog 6 #[.agg #[.slice a l.length c, .int .i64 now], .int .i64 low] w fun e w' => e = .returned (.tuple #[.agg #[.slice none 0 0, .int .i64 0], .int .i64 0, .int .i64 (hourN l now low)]) ∧ Below w.heap.size w w' := by
  have HR : Hid (∀ W0, Below w.heap.size w W0 → ChRow 0 W0.heap.size W0 a l) := fun W0 hB => ChRow.up hr hB
  have HE : Hid _ := hbd
  have h0' : (hourN l now low != 0) = true := by simpa using h0
  clear hr hbd h0
  go_enter Try.func6, Try.ntmps6
  go_wp2_with fail
  refine (impl_hourFault a c l now low _ (HR.out _ ?b0) HE.out).mono ?_
  case b0 => repeat (first | exact Below.refl _ _ | refine Below.setCell ?_ (by first | omega | (simp <;> omega)) _ | refine Below.alloc ?_ (by first | omega | (simp <;> omega)) _)
  rintro e w1 ⟨rfl, hb1⟩
  have q1 : Below w.heap.size w w1 := by
    refine Below.trans ?_ (hb1.mono (by first | omega | (simp <;> omega)))
    repeat (first | exact Below.refl _ _ | refine Below.setCell ?_ (by first | omega | (simp <;> omega)) _ | refine Below.alloc ?_ (by first | omega | (simp <;> omega)) _)
  have hz1 : w.heap.size + 3 ≤ w1.heap.size := by have := hb1.size; simp at this; omega
  have k2 := fun o => hb1.cell (p := ⟨w.heap.size + 1 + 1, o, none⟩) (by first | omega | (simp <;> omega))
  have j2 := fun o => hb1.frozen (p := ⟨w.heap.size + 1 + 1, o, none⟩) (by first | omega | (simp <;> omega))
  have Q : Hid _ := q1
  clear hb1 q1
  obtain ⟨z, hz⟩ : ∃ z, z = hourN l now low := ⟨_, rfl⟩
  have HZ : Hid _ := hz
  rw [← hz] at h0' ⊢
  clear hz
  go_wp2_with fail
  refine bodyPost_ret (v := .tuple #[.agg #[.slice none 0 0, .int .i64 0], .int .i64 0, .int .i64 z]) (by simp [results, Try.results6, go_sem, k2]) rfl ⟨by rw [HZ.out], ?_⟩
  repeat (refine Below.setCell ?_ (by first | omega | (simp <;> omega)) _)
  exact Q.out
set_option maxHeartbeats 4000000 in
theorem impl_forget (a : Option Addr) (c : Nat) (l : Chs) (now low : Int) (w : World) (hr : ChRow 0 w.heap.size w a l) (hbd : ChsBd 1048576 l) (h0 : hourN l now low = 0) :
    Calls Try.prog 6 #[.agg #[.slice a l.length c, .int .i64 now], .int .i64 low] w fun e w' => ∃ a' bs, e = .returned (.tuple #[.agg #[.slice a' (fgS low l).length l.length, .int .i64 now], .int .i64 (goS low l), .int .i64 0]) ∧ StOwn w.heap.size w'.heap.size w' a' (fgS low l) bs ∧ Below w.heap.size w w' := by
  have HR : Hid (∀ W0, Below w.heap.size w W0 → ChRow 0 W0.heap.size W0 a l) := fun W0 hB => ChRow.up hr hB
  have HE : Hid _ := hbd
  have hs := (hourN_zero h0).1
  have h16 : l.length = 16 := (storeB_all hs).1
  have HS : Hid (∀ i (h : i < l.length), Rise l[i]) := fun i h => store_rise hs h
  have H0 : Hid _ := h0
  have hsz : sizeN l ≤ 16777216 := by have := sizeN_le hbd.2; omega
  have hgo := go_size low l
  clear hr hbd h0 hs h16
  obtain ⟨V, hV⟩ : ∃ V, V = ((w.alloc (.cells #[.slice a l.length c, .int .i64 now] 25)).alloc (.cells #[.int .i64 low] 3)).alloc (.cells #[.slice none 0 0, .int .i64 0] 25) := ⟨_, rfl⟩
  have bV : Below w.heap.size w V := by
    rw [hV]
    repeat (first | exact Below.refl _ _ | refine Below.alloc ?_ (by first | omega | (simp <;> omega)) _)
  have zV : V.heap.size = w.heap.size + 3 := by rw [hV]; simp
  have c0 : V.heap[w.heap.size]? = some (.cells #[.slice a l.length c, .int .i64 now] 25 (0, 0)) := by
    rw [hV, Below.heap_alloc _ _ _ (by simp; omega), Below.heap_alloc _ _ _ (by simp)]; exact heap_alloc_new _ _
  have c1 : V.heap[w.heap.size + 1]? = some (.cells #[.int .i64 low] 3 (0, 0)) := by
    rw [hV, Below.heap_alloc _ _ _ (by simp)]
    have := heap_alloc_new (w.alloc (.cells #[.slice a l.length c, .int .i64 now] 25)) (.cells #[.int .i64 low] 3)
    simpa using this
  have c2 : V.heap[w.heap.size + 1 + 1]? = some (.cells #[.slice none 0 0, .int .i64 0] 25 (0, 0)) := by
    rw [hV]
    have := heap_alloc_new ((w.alloc (.cells #[.slice a l.length c, .int .i64 now] 25)).alloc (.cells #[.int .i64 low] 3)) (.cells #[.slice none 0 0, .int .i64 0] 25)
    simpa using this
  have KV : Hid (∀ W, Below V.heap.size V W → W.heap[w.heap.size]? = some (.cells #[.slice a l.length c, .int .i64 now] 25 (0, 0)) ∧ W.heap[w.heap.size + 1]? = some (.cells #[.int .i64 low] 3 (0, 0)) ∧ W.heap[w.heap.size + 1 + 1]? = some (.cells #[.slice none 0 0, .int .i64 0] 25 (0, 0)) ∧ Below w.heap.size w W) := fun W h =>
    ⟨(h.block _ (by omega)).trans c0, (h.block _ (by omega)).trans c1, (h.block _ (by omega)).trans c2, bV.trans (h.mono (by omega))⟩
  have BV : Hid _ := bV
  clear c0 c1 c2 bV
  go_enter Try.func6, Try.ntmps6
  go_wp2_with fail
  rw [← hV]
  clear hV
  refine (impl_hourFault a c l now low _ (HR.out _ BV.out) HE.out).mono ?_
  rintro e w1 ⟨rfl, hb1⟩
  rw [H0.out]
  obtain ⟨d0, d1, d2, _⟩ := KV.out _ hb1
  have Q1 : Hid (Below V.heap.size V w1) := hb1
  have k0 := fun o => row_cell d0 o
  have z1 := hb1.size
  clear hb1 d0 d2
  go_wp2_with fail
  refine (of_chains_fg (w.heap.size + 1) low a c l now _ (row_cell d1 0) (by omega) (HR.out _ (KV.out _ Q1.out).2.2.2) HE.out HS.out).mono ?_
  rintro e w2 ⟨a', bs, rfl, o2, hb2⟩
  have HM : Hid (ChsBd 1048576 (fgS low l)) := fgS_bd HE.out
  obtain ⟨m, hm⟩ : ∃ m, m = fgS low l := ⟨_, rfl⟩
  obtain ⟨g, hgg⟩ : ∃ g, g = goS low l := ⟨_, rfl⟩
  have HMM : Hid (m = fgS low l) := hm
  have HGG : Hid (g = goS low l) := hgg
  rw [← hm] at o2 HM hgo ⊢
  rw [← hgg] at hgo
  clear hm hgg
  have q2 : Below V.heap.size V w2 := Q1.out.trans (hb2.mono (by omega))
  obtain ⟨d0, _, d2, _⟩ := KV.out _ q2
  have k0 := fun ob => (World.cell?_alloc_past (w := w2) ob w.heap.size 0 (by have := hb2.size; omega)).trans (row_cell d0 0)
  have k1 := fun ob => (World.cell?_alloc_past (w := w2) ob w.heap.size 1 (by have := hb2.size; omega)).trans (row_cell d0 1)
  have n0 := row_cell d0 1
  have z2 := hb2.size
  have O2 : Hid (StOwn w1.heap.size w2.heap.size w2 a' m bs) := o2
  have Q2 : Hid _ := q2
  clear o2 hb2 q2 d0 d1 d2
  go_wp2_with fail
  clear k0 k1 n0
  obtain ⟨U, hU⟩ : ∃ U, U = w2.alloc (.cells #[.slice a' m.length l.length, .int .i64 now] 25) := ⟨_, rfl⟩
  rw [← hU]
  have zU : U.heap.size = w2.heap.size + 1 := by rw [hU]; simp
  have bU : Below w2.heap.size w2 U := by rw [hU]; exact (Below.refl _ _).alloc (Nat.le_refl _) _
  have u9 : U.heap[w2.heap.size]? = some (.cells #[.slice a' m.length l.length, .int .i64 now] 25 (0, 0)) := by rw [hU]; exact heap_alloc_new _ _
  have OU : Hid (StOwn w1.heap.size w2.heap.size U a' m bs) := StOwn.keep O2.out (agree bU (Nat.le_refl _))
  have QU : Hid (Below V.heap.size V U) := Q2.out.trans (bU.mono (by omega))
  obtain ⟨d0, _, d2, _⟩ := KV.out _ QU.out
  have x0 := fun o => row_cell d0 o
  have x2 := fun o => row_cell d2 o
  have y2 := fun o => row_frozen d2 o
  have x9 := fun o => row_cell u9 o
  have d2' := d2
  clear hU bU u9 d0 d2 O2 Q2
  have hg : (sizeN l : Int) - sizeN m = g := by omega
  have HG : Hid _ := hg
  clear hg hgo
  have hRU : w.heap.size + 1 + 1 < U.heap.size := by omega
  have KX : Hid (∀ L W, JF (w.heap.size + 1 + 1) U 6 #[.slice none 0 0, .int .i64 0] #[.slice a' m.length l.length, .int .i64 now] 25 L W → (∀ o, W.cell? ⟨w.heap.size, o, none⟩ = #[.slice a l.length c, .int .i64 now][o]?) ∧ (∀ o, W.cell? ⟨w2.heap.size, o, none⟩ = #[.slice a' m.length l.length, .int .i64 now][o]?) ∧ ChRow 0 W.heap.size W a l ∧ StOwn w1.heap.size w2.heap.size W a' m bs ∧ Below w.heap.size w W) := fun L W h => by
    have hzW := h.1.size
    have bw : Below w.heap.size w W := (KV.out _ QU.out).2.2.2.trans (h.1.below (by omega) (by omega))
    refine ⟨fun o => ?_, fun o => ?_, HR.out _ bw, StOwn.keep OU.out (h.1.agree (by omega) (.inr (by omega))), bw⟩
    · rw [World.cell?_of_block (w := U) (h.block (b := w.heap.size) (by omega) (by omega))]; exact x0 o
    · rw [World.cell?_of_block (w := U) (h.block (b := w2.heap.size) (by omega) (by omega))]; exact x9 o
  have hj0 : JF (w.heap.size + 1 + 1) U 6 #[.slice none 0 0, .int .i64 0] #[.slice a' m.length l.length, .int .i64 now] 25 (Array.replicate 9 false) U.drew := ⟨(KeptS.refl _ _ U).trans (KeptS.of (Below.refl _ _).drew), d2'⟩
  clear x0 x2 y2 x9 d2'
  refine region_rel5 (n := 7) (k := 2) (by omega) (by kernel_rfl) (by kernel_rfl) (by kernel_rfl) (fun u => ⟨#[.agg #[.slice a l.length c, .int .i64 now], .int .i64 low, .pointer (some ⟨w.heap.size, 0, none⟩), .pointer (some ⟨w.heap.size + 1, 0, none⟩), .pointer (some ⟨w.heap.size + 1 + 1, 0, none⟩), .int .i64 0, .int .i64 0, .int .i64 0, .slice a' m.length l.length, .pointer (some ⟨w2.heap.size, 0, none⟩), .agg #[.slice a l.length c, .int .i64 now], .int .i64 low, .int .i64 0, .int .i64 0, .bool false, undef, undef, .agg #[.slice a l.length c, .int .i64 now], .func (.func 17) #[] #[.pointer (some ⟨w.heap.size + 1, 0, none⟩)], .slice a' m.length l.length, .slice a' m.length l.length, .pointer (some ⟨w.heap.size, 1, none⟩), .int .i64 now, .agg #[.slice a' m.length l.length, .int .i64 now], u 24, u 25, u 26, u 27, u 28, u 29], []⟩) (fun _ => undef) (fun i => if i = 6 then 99 else 24 + i) (fun i j _ _ h => by revert h; split <;> split <;> omega)
    (fun i v _ => match i with | 0 => v = .agg #[.slice a' m.length l.length, .int .i64 now] | 1 => v = .agg #[.slice a l.length c, .int .i64 now] | 2 => v = .int .i64 (sizeN l) | 3 => v = .agg #[.slice a' m.length l.length, .int .i64 now] | 4 => v = .int .i64 (sizeN m) | 5 => v = .int .i64 ((sizeN l : Int) - sizeN m) | _ => True) (fun L _ W => JF (w.heap.size + 1 + 1) U 6 #[.slice none 0 0, .int .i64 0] #[.slice a' m.length l.length, .int .i64 now] 25 L W) hj0 ?step ?last
  case step =>
    intro L u W i hi hLs hLi hj hdep
    obtain ⟨e0, e9, eR, eM, eB⟩ := KX.out _ _ hj
    have ER : Hid _ := eR
    have EM : Hid (ChRow 0 W.heap.size W a' m) := ChRow.wide eM.row (Nat.zero_le _) (by have := hj.1.size; omega)
    clear eR eM eB
    have hcase : i = 0 ∨ i = 1 ∨ i = 2 ∨ i = 3 ∨ i = 4 ∨ i = 5 ∨ i = 6 := by omega
    rcases hcase with rfl | rfl | rfl | rfl | rfl | rfl | rfl
    · refine wpOp_step rfl (fun K hK => ?_)
      clear hdep
      go_simp
      exact hK _ _ ⟨_, rfl, fun _ _ h => h, rfl, hj.set (by omega) hRU (Below.refl _ _)⟩
    · refine wpOp_step rfl (fun K hK => ?_)
      clear hdep
      go_simp
      exact hK _ _ ⟨_, rfl, fun _ _ h => h, rfl, hj.set (by omega) hRU (Below.refl _ _)⟩
    · have d1 : u 25 = .agg #[.slice a l.length c, .int .i64 now] := (hdep _ rfl ⟨1, .data⟩ (by simp) rfl).2
      refine wpOp_step rfl (fun K hK => ?_)
      clear hdep e0 e9
      go_simp
      refine (count_versions_b a c l now _ ER.out HE.out).mono ?_
      rintro e w8 ⟨rfl, hb8⟩
      exact hK _ _ ⟨_, by simp [upd, d1], fun _ _ h => h, rfl, hj.set (by omega) hRU hb8⟩
    · refine wpOp_step rfl (fun K hK => ?_)
      clear hdep
      go_simp
      exact hK _ _ ⟨_, rfl, fun _ _ h => h, rfl, hj.set (by omega) hRU (Below.refl _ _)⟩
    · have d3 : u 27 = .agg #[.slice a' m.length l.length, .int .i64 now] := (hdep _ rfl ⟨3, .data⟩ (by simp) rfl).2
      refine wpOp_step rfl (fun K hK => ?_)
      clear hdep e0 e9
      go_simp
      refine (count_versions_b a' l.length m now _ EM.out HM.out).mono ?_
      rintro e w8 ⟨rfl, hb8⟩
      exact hK _ _ ⟨_, by simp [upd, d3], fun _ _ h => h, rfl, hj.set (by omega) hRU hb8⟩
    · have d2 : u 26 = .int .i64 (sizeN l) := (hdep _ rfl ⟨2, .data⟩ (by simp) rfl).2
      have d4 : u 28 = .int .i64 (sizeN m) := (hdep _ rfl ⟨4, .data⟩ (by simp) rfl).2
      have hw : IntKind.i64.wrap ((sizeN l : Int) - sizeN m) = (sizeN l : Int) - sizeN m := wrap_small _ (by have := HG.out; omega) (by have := HG.out; omega)
      refine wpOp_step rfl (fun K hK => ?_)
      clear hdep e0 e9
      go_simp
      exact hK _ _ ⟨_, by simp [upd, d2, d4], fun _ _ h => h, rfl, hj.set (by omega) hRU (Below.refl _ _)⟩
    · have d0 : u 24 = .agg #[.slice a' m.length l.length, .int .i64 now] := (hdep _ rfl ⟨0, .data⟩ (by simp) rfl).2
      have hl6 : L.getD 6 false = false := by
        cases h6 : L.getD 6 false
        · rfl
        · rw [getD_both (by omega) h6] at hLi; cases hLi
      have hh := hj.2
      rw [hl6, if_neg (by simp)] at hh
      have q2 := fun o => row_cell hh o
      have f2 := fun o => row_frozen hh o
      have HH : Hid _ := hh
      have HJ : Hid _ := hj
      clear hj hh e0 e9
      refine wpOp_step rfl (fun K hK => ?_)
      clear hdep
      go_simp
      refine hK _ _ ⟨undef, by simp [upd, d0], fun _ _ h => h, trivial, ?_⟩
      refine ⟨(HJ.out.1.set (p := ⟨w.heap.size + 1 + 1, 0, none⟩) (Nat.le_refl _) (Nat.lt_succ_self _) _).set (p := ⟨w.heap.size + 1 + 1, 1, none⟩) (Nat.le_refl _) (Nat.lt_succ_self _) _, ?_⟩
      rw [show (L.setIfInBounds 6 true).getD 6 false = true by simp [hLs], if_pos rfl]
      exact row_set (row_set HH.out 0 _) 1 _
  case last =>
    intro L u W hLs hL hj hp
    obtain ⟨_, _, _, eM, eB⟩ := KX.out _ _ hj
    have d5 : u 29 = .int .i64 ((sizeN l : Int) - sizeN m) := hp 5 (by omega)
    have hh := hj.2
    rw [hL 6 (by omega), if_pos rfl] at hh
    have q2 := fun o => row_cell hh o
    have HF : Hid (StOwn w.heap.size W.heap.size W a' m bs ∧ Below w.heap.size w W) := ⟨StOwn.wide eM (by omega) (by have := hj.1.size; omega), eB⟩
    clear hp hj hh eM eB
    unfold wpTail
    refine wpOp_step rfl (fun K hK => ?_)
    go_simp
    refine hK _ _ ?_
    clear hK
    unfold wpTail
    refine wpOp_step rfl (fun K hK => ?_)
    go_simp
    refine hK _ _ ?_
    clear hK
    unfold wpTail
    go_wp2_with fail
    refine bodyPost_ret (v := .tuple #[.agg #[.slice a' m.length l.length, .int .i64 now], .int .i64 ((sizeN l : Int) - sizeN m), .int .i64 0]) (by simp [results, Try.results6, go_sem, q2]) rfl ⟨a', bs, by rw [HG.out, HMM.out, HGG.out], ?_, HF.out.2⟩
    rw [← HMM.out]
    exact HF.out.1
end Go.Proofs.Ytoojbgngjnepeaa.G
