/- Proved: at every two stores the law FnExactSameAt returns true, and its arguments read afterwards as they read before. No conditions beyond the row's own. -/
import Derived.Test.YtddjcemkopidbabStSame
import Derived.Test.YtddjcemkopidbabStSz
import Derived.Test.YtddjcemkopidbabStTo
import Derived.Test.YtddjcemkopidbabStEq
import Derived.WalkKit
import Derived.ProofKit
import Derived.OpenShut
import Derived.ShutString
import Derived.ChangeOld
import Derived.Below
import Derived.Lib.SmallJoins
import Derived.Deep.CutRange
namespace Go.Proofs.Ytddjcemkopidbab.fnExactSameAt
open Go.ChangeShapes Go.WideShapes Go.ChangeAt Go.RowKit
open Go.ChangeMaps (open_string shut_string)
open Go.Proofs.Ytddjcemkopidbab.G
set_option linter.unusedVariables false

theorem own : ownKnob Try.prog.godebug = none := by kernel_rfl
theorem laidOut : laidOutB Try.prog = true := by kernel_rfl

def dstS (i : Nat) : Nat := if i = 5 then 22 else if i = 8 then 6 else if i = 9 then 7 else if i < 5 then 23 + i else 22 + i
def PvS (a : Option Addr) (c : Nat) (l : Chs) (n : Int) (a' : Option Addr) (c' : Nat) (l2 : Chs) (n2 : Int) (rb : Bool) (rc : Int) : Nat → Value → World → Prop
  | 0, v, _ => v = .agg #[.slice a l.length c, .int .i64 n]
  | 1, v, W => ∃ x, v = .agg #[.slice x l.length l.length, .int .i64 n] ∧ ChRow 0 W.heap.size W x l
  | 2, v, _ => v = .agg #[.slice a' l2.length c', .int .i64 n2]
  | 3, v, W => ∃ x, v = .agg #[.slice x l2.length l2.length, .int .i64 n2] ∧ ChRow 0 W.heap.size W x l2
  | 4, v, _ => v = .tuple #[.bool rb, .int .i64 rc]
  | 5, v, _ => v = .tuple #[.bool rb, .int .i64 rc]
  | 6, v, _ => v = .bool rb
  | 7, v, _ => v = .int .i64 rc
  | 8, v, _ => v = .bool rb
  | _, v, _ => v = .int .i64 rc
theorem PvS.up {a : Option Addr} {c : Nat} {l : Chs} {n : Int} {a' : Option Addr} {c' : Nat} {l2 : Chs} {n2 : Int} {rb : Bool} {rc : Int} {W W' : World} (hb : Below W.heap.size W W') {j : Nat} {x : Value} (h : PvS a c l n a' c' l2 n2 rb rc j x W) : PvS a c l n a' c' l2 n2 rb rc j x W' := by
  unfold PvS at h ⊢
  split at h
  case h_2 => obtain ⟨y, h1, h2⟩ := h; exact ⟨y, h1, ChRow.up h2 hb⟩
  case h_4 => obtain ⟨y, h1, h2⟩ := h; exact ⟨y, h1, ChRow.up h2 hb⟩
  all_goals exact h
/-- Two of the law's stores that lie boxed, one behind the other. -/
def Two (w W : World) (a a' : Option Addr) (c c' : Nat) (l l2 : Chs) (n n2 : Int) : Prop :=
  W.heap[w.heap.size]? = some (.cells #[.slice a l.length c, .int .i64 n] 24 (0, 0)) ∧ W.heap[w.heap.size + 1]? = some (.cells #[.slice a' l2.length c', .int .i64 n2] 24 (0, 0)) ∧ Below w.heap.size w W
theorem two (w : World) (a a' : Option Addr) (c c' : Nat) (l l2 : Chs) (n n2 : Int) : ∃ V, V = (w.alloc (.cells #[.slice a l.length c, .int .i64 n] 24)).alloc (.cells #[.slice a' l2.length c', .int .i64 n2] 24) ∧ V.heap.size = w.heap.size + 2 ∧ ∀ W, Below V.heap.size V W → Two w W a a' c c' l l2 n n2 := by
  refine ⟨_, rfl, by simp, ?_⟩
  intro W h
  have key : Two w ((w.alloc (.cells #[.slice a l.length c, .int .i64 n] 24)).alloc (.cells #[.slice a' l2.length c', .int .i64 n2] 24)) a a' c c' l l2 n n2 := by
    refine ⟨?_, ?_, ?_⟩
    · rw [Below.heap_alloc _ _ _ (by simp)]; exact heap_alloc_new _ _
    · have := heap_alloc_new (w.alloc (.cells #[.slice a l.length c, .int .i64 n] 24)) (.cells #[.slice a' l2.length c', .int .i64 n2] 24)
      simpa using this
    · exact ((Below.refl _ _).alloc (Nat.le_refl _) _).alloc (by simp) _
  exact ⟨(h.block _ (by simp; omega)).trans key.1, (h.block _ (by simp)).trans key.2.1, key.2.2.trans (h.mono (by simp; omega))⟩
set_option maxHeartbeats 16000000 in
set_option maxRecDepth 40000 in
theorem walk (a : Option Addr) (c : Nat) (l : Chs) (n : Int) (a' : Option Addr) (c' : Nat) (l2 : Chs) (n2 : Int) (w : World) (hr : ChRow 0 w.heap.size w a l) (hb : ChsBd maxLen l) (hr2 : ChRow 0 w.heap.size w a' l2) (hb2 : ChsBd maxLen l2) :
    Calls Try.prog 4 #[.agg #[.slice a l.length c, .int .i64 n], .agg #[.slice a' l2.length c', .int .i64 n2]] w fun e w' => e = .returned (.bool true) ∧ Below w.heap.size w w' := by
  have K0 : Hid (∀ W0, Below w.heap.size w W0 → ChRow 0 W0.heap.size W0 a l ∧ ChRow 0 W0.heap.size W0 a' l2) := fun W0 hB => ⟨ChRow.up hr hB, ChRow.up hr2 hB⟩
  have HD : Hid (ChsBd maxLen l) := hb
  have HD2 : Hid (ChsBd maxLen l2) := hb2
  clear hr hb hr2 hb2
  obtain ⟨V, hV, zV, kV⟩ := two w a a' c c' l l2 n n2
  have KV : Hid _ := kV
  have TV := kV _ (Below.refl _ _)
  have x0 := fun o => row_cell TV.1 o
  have x1 := fun o => row_cell TV.2.1 o
  have BV : Hid _ := TV.2.2
  clear kV TV
  go_enter Try.func4, Try.ntmps4
  go_wp2_with fail
  rw [← hV]
  clear hV
  refine (sz_store a c l n 1048576 _ (K0.out _ BV.out).1 HD.out (by omega) (by omega)).mono ?_
  rintro e w1 ⟨m1, rfl, hm, hb1⟩
  have HM : Hid (Sz 1048576 m1 (ChsBd 1048576 l)) := hm
  have q1 : Hid (Below V.heap.size V w1) := hb1
  have z1 := hb1.size
  have hm1 := hm.1
  clear hm hb1 x0 x1
  by_cases hneg : m1 < 0
  · have Q : Hid _ := (KV.out _ q1.out).2.2
    go_wp2_with fail
    go_ret
    exact ⟨rfl, Q.out⟩
  have HE : Hid (ChsBd 1048576 l) := HM.out.2.2 (by omega)
  clear HM
  have T1 := KV.out _ q1.out
  have x1 := fun o => row_cell T1.2.1 o
  clear T1
  go_wp2_with fail
  refine (sz_store a' c' l2 n2 m1 _ (K0.out _ (KV.out _ q1.out).2.2).2 HD2.out (by omega) (by omega)).mono ?_
  rintro e w2 ⟨m2, rfl, hm, hb2⟩
  have HM : Hid (Sz m1 m2 (ChsBd 1048576 l2)) := hm
  have q2 : Hid (Below V.heap.size V w2) := q1.out.trans (hb2.mono (by omega))
  have z2 := hb2.size
  clear hm hb2 x1
  by_cases hneg2 : m2 < 0
  · have Q : Hid _ := (KV.out _ q2.out).2.2
    go_wp2_with fail
    go_ret
    exact ⟨rfl, Q.out⟩
  have HE2 : Hid (ChsBd 1048576 l2) := HM.out.2.2 (by omega)
  clear HM
  obtain ⟨rb, hrb⟩ : ∃ b, b = sameR l n l2 n2 := ⟨_, rfl⟩
  obtain ⟨rc, hrc⟩ : ∃ b, b = sameC l n l2 n2 := ⟨_, rfl⟩
  have HRB : Hid _ := hrb
  have HRC : Hid _ := hrc
  clear hrb hrc
  go_wp2_with fail
  refine region_rel6 (n := 10) (by kernel_rfl) (by kernel_rfl) rfl (fun u => ⟨#[.agg #[.slice a l.length c, .int .i64 n], .agg #[.slice a' l2.length c', .int .i64 n2], .pointer (some ⟨w.heap.size, 0, none⟩), .pointer (some ⟨w.heap.size + 1, 0, none⟩), .bool false, .int .i64 m2, u 6, u 7, undef, undef, undef, undef, .agg #[.slice a l.length c, .int .i64 n], .int .i64 1048576, .int .i64 m1, .int .i64 m1, .bool (decide (m1 < 0)), .agg #[.slice a' l2.length c', .int .i64 n2], .int .i64 m1, .int .i64 m2, .int .i64 m2, .bool (decide (m2 < 0)), u 22, u 23, u 24, u 25, u 26, u 27, u 28, u 29, undef, undef, undef, undef, undef, undef, undef, undef, undef, undef, undef, undef, undef, undef, undef, undef, undef, undef, undef, undef, undef, undef, undef, undef, undef, undef, undef, undef], []⟩) (fun _ => undef) dstS (fun i j hi hj h => by revert h; unfold dstS; (repeat' split) <;> omega)
    (PvS a c l n a' c' l2 n2 rb rc) (fun _ _ W => Below w2.heap.size w2 W) (Below.refl _ _).drew ?step ?last
  case step =>
    intro L u W i hi hLs hLi hj hdep
    have QW : Hid (Below V.heap.size V W) := q2.out.trans (hj.mono (by omega))
    have T := KV.out _ QW.out
    have e0 := fun o => row_cell T.1 o
    have e1 := fun o => row_cell T.2.1 o
    have RW : Hid _ := K0.out _ T.2.2
    have hzj := hj.size
    have UP : Hid (∀ W', Below W.heap.size W W' → ∀ j x, PvS a c l n a' c' l2 n2 rb rc j x W → PvS a c l n a' c' l2 n2 rb rc j x W') := fun W' hb j x h => PvS.up hb h
    clear T
    have hcase : i = 0 ∨ i = 1 ∨ i = 2 ∨ i = 3 ∨ i = 4 ∨ i = 5 ∨ i = 6 ∨ i = 7 ∨ i = 8 ∨ i = 9 := by omega
    rcases hcase with rfl | rfl | rfl | rfl | rfl | rfl | rfl | rfl | rfl | rfl
    · refine wpOp_step rfl (fun K hK => ?_)
      clear hdep
      go_simp
      exact hK _ _ ⟨_, rfl, fun _ _ h => h, rfl, hj⟩
    · have d0 : u 23 = .agg #[.slice a l.length c, .int .i64 n] := (hdep _ rfl ⟨0, .data⟩ (by simp) rfl).2
      refine wpOp_step rfl (fun K hK => ?_)
      clear hdep e0 e1
      go_simp
      refine (to_store a c l n _ RW.out.1 HE.out).mono ?_
      rintro e w8 ⟨x, bx, rfl, r8, hb8⟩
      exact hK _ _ ⟨.agg #[.slice x l.length l.length, .int .i64 n], by simp [upd, dstS, d0], UP.out _ hb8, ⟨x, rfl, ChRow.wide r8.row (Nat.zero_le _) (Nat.le_refl _)⟩, hj.trans (hb8.mono hzj)⟩
    · refine wpOp_step rfl (fun K hK => ?_)
      clear hdep
      go_simp
      exact hK _ _ ⟨_, rfl, fun _ _ h => h, rfl, hj⟩
    · have d0 : u 25 = .agg #[.slice a' l2.length c', .int .i64 n2] := (hdep _ rfl ⟨2, .data⟩ (by simp) rfl).2
      refine wpOp_step rfl (fun K hK => ?_)
      clear hdep e0 e1
      go_simp
      refine (to_store a' c' l2 n2 _ RW.out.2 HE2.out).mono ?_
      rintro e w8 ⟨x, bx, rfl, r8, hb8⟩
      exact hK _ _ ⟨.agg #[.slice x l2.length l2.length, .int .i64 n2], by simp [upd, dstS, d0], UP.out _ hb8, ⟨x, rfl, ChRow.wide r8.row (Nat.zero_le _) (Nat.le_refl _)⟩, hj.trans (hb8.mono hzj)⟩
    · obtain ⟨x, d1, r1⟩ : ∃ x, u 24 = .agg #[.slice x l.length l.length, .int .i64 n] ∧ ChRow 0 W.heap.size W x l := (hdep _ rfl ⟨1, .data⟩ (by simp) rfl).2
      obtain ⟨y, d3, r3⟩ : ∃ x, u 26 = .agg #[.slice x l2.length l2.length, .int .i64 n2] ∧ ChRow 0 W.heap.size W x l2 := (hdep _ rfl ⟨3, .data⟩ (by simp) rfl).2
      have R1 : Hid _ := r1
      have R3 : Hid _ := r3
      refine wpOp_step rfl (fun K hK => ?_)
      clear hdep e0 e1 r1 r3
      go_simp
      refine (spec_sameAt x y _ _ l l2 n n2 _ R1.out R3.out HE.out HE2.out).mono ?_
      rintro e w8 ⟨rfl, hb8⟩
      exact hK _ _ ⟨.tuple #[.bool (sameR l n l2 n2), .int .i64 (sameC l n l2 n2)], by simp [upd, dstS, d1, d3], UP.out _ hb8, (by show Value.tuple #[.bool (sameR l n l2 n2), .int .i64 (sameC l n l2 n2)] = .tuple #[.bool rb, .int .i64 rc]; rw [HRB.out, HRC.out]), hj.trans (hb8.mono hzj)⟩
    · have d4 : u 27 = .tuple #[.bool rb, .int .i64 rc] := (hdep _ rfl ⟨4, .data⟩ (by simp) rfl).2
      refine wpOp_step rfl (fun K hK => ?_)
      clear hdep e0 e1
      go_simp
      exact hK _ _ ⟨_, by simp [upd, dstS, d4], fun _ _ h => h, rfl, hj⟩
    · have d4 : u 22 = .tuple #[.bool rb, .int .i64 rc] := (hdep _ rfl ⟨5, .data⟩ (by simp) rfl).2
      refine wpOp_step rfl (fun K hK => ?_)
      clear hdep e0 e1
      go_simp
      exact hK _ _ ⟨_, by simp [upd, dstS, d4], fun _ _ h => h, rfl, hj⟩
    · have d4 : u 22 = .tuple #[.bool rb, .int .i64 rc] := (hdep _ rfl ⟨5, .data⟩ (by simp) rfl).2
      refine wpOp_step rfl (fun K hK => ?_)
      clear hdep e0 e1
      go_simp
      exact hK _ _ ⟨_, by simp [upd, dstS, d4], fun _ _ h => h, rfl, hj⟩
    · have d4 : u 28 = .bool rb := (hdep _ rfl ⟨6, .data⟩ (by simp) rfl).2
      refine wpOp_step rfl (fun K hK => ?_)
      clear hdep e0 e1
      go_simp
      exact hK _ _ ⟨_, by simp [upd, dstS, d4], fun _ _ h => h, rfl, hj⟩
    · have d4 : u 29 = .int .i64 rc := (hdep _ rfl ⟨7, .data⟩ (by simp) rfl).2
      refine wpOp_step rfl (fun K hK => ?_)
      clear hdep e0 e1
      go_simp
      exact hK _ _ ⟨_, by simp [upd, dstS, d4], fun _ _ h => h, rfl, hj⟩
  case last =>
    intro L u w3 hLs hL hj hp
    have d8 : u 6 = .bool rb := hp 8 (by omega)
    have d9 : u 7 = .int .i64 rc := hp 9 (by omega)
    have q3 : Hid (Below V.heap.size V w3) := q2.out.trans (hj.mono (by omega))
    have z3 := hj.size
    have T3 := KV.out _ q3.out
    have x0 := fun o => row_cell T3.1 o
    clear hp hj T3
    rw [d8, d9]
    clear d8 d9
    go_wp2_with fail
    clear x0
    refine (to_store a c l n _ (K0.out _ (KV.out _ q3.out).2.2).1 HE.out).mono ?_
    rintro e w4 ⟨aX, bX, rfl, r4, hb4⟩
    have q4 : Hid (Below V.heap.size V w4) := q3.out.trans (hb4.mono (by omega))
    have R4 : Hid (ChRow 0 w4.heap.size w4 aX l) := ChRow.wide r4.row (Nat.zero_le _) (Nat.le_refl _)
    have z4 := hb4.size
    have T4 := KV.out _ q4.out
    have p0 := fun ob => (World.cell?_alloc_past (w := w4) ob (w.heap.size + 1) 0 (by omega)).trans (row_cell T4.2.1 0)
    have p1 := fun ob => (World.cell?_alloc_past (w := w4) ob (w.heap.size + 1) 1 (by omega)).trans (row_cell T4.2.1 1)
    clear r4 hb4 T4
    go_wp2_with fail
    clear p0 p1
    obtain ⟨va, hva⟩ : ∃ W, W = w4.alloc (.cells #[.slice aX l.length l.length, .int .i64 n] 31) := ⟨_, rfl⟩
    rw [← hva]
    have zva : va.heap.size = w4.heap.size + 1 := by rw [hva]; simp
    have bva : Below w4.heap.size w4 va := by rw [hva]; exact (Below.refl _ _).alloc (Nat.le_refl _) _
    have cva : va.heap[w4.heap.size]? = some (.cells #[.slice aX l.length l.length, .int .i64 n] 31 (0, 0)) := by rw [hva]; exact heap_alloc_new _ _
    have KA : Hid (∀ W, Below va.heap.size va W → ChRow 0 W.heap.size W aX l ∧ W.heap[w4.heap.size]? = some (.cells #[.slice aX l.length l.length, .int .i64 n] 31 (0, 0)) ∧ Below V.heap.size V W) := fun W h =>
      ⟨ChRow.up (ChRow.up R4.out bva) h, (h.block _ (by omega)).trans cva, (q4.out.trans (bva.mono (by omega))).trans (h.mono (by omega))⟩
    clear hva bva cva R4 q4
    refine (to_store a' c' l2 n2 _ (K0.out _ (KV.out _ (KA.out _ (Below.refl _ _)).2.2).2.2).2 HE2.out).mono ?_
    rintro e w5 ⟨aY, bY, rfl, r5, hb5⟩
    have q5 : Hid (Below va.heap.size va w5) := hb5
    have R5 : Hid (ChRow 0 w5.heap.size w5 aY l2) := ChRow.wide r5.row (Nat.zero_le _) (Nat.le_refl _)
    have z5 := hb5.size
    have T5 := (KA.out _ hb5).2.1
    have p0 := fun ob => (World.cell?_alloc_past (w := w5) ob w4.heap.size 0 (by omega)).trans (row_cell T5 0)
    have p1 := fun ob => (World.cell?_alloc_past (w := w5) ob w4.heap.size 1 (by omega)).trans (row_cell T5 1)
    clear r5 hb5 T5
    go_wp2_with fail
    clear p0 p1
    obtain ⟨vb, hvb⟩ : ∃ W, W = w5.alloc (.cells #[.slice aY l2.length l2.length, .int .i64 n2] 31) := ⟨_, rfl⟩
    rw [← hvb]
    have zvb : vb.heap.size = w5.heap.size + 1 := by rw [hvb]; simp
    have bvb : Below w5.heap.size w5 vb := by rw [hvb]; exact (Below.refl _ _).alloc (Nat.le_refl _) _
    have cvb : vb.heap[w5.heap.size]? = some (.cells #[.slice aY l2.length l2.length, .int .i64 n2] 31 (0, 0)) := by rw [hvb]; exact heap_alloc_new _ _
    have KB : Hid (∀ W, Below vb.heap.size vb W → ChRow 0 W.heap.size W aY l2 ∧ W.heap[w5.heap.size]? = some (.cells #[.slice aY l2.length l2.length, .int .i64 n2] 31 (0, 0)) ∧ Below va.heap.size va W) := fun W h =>
      ⟨ChRow.up (ChRow.up R5.out bvb) h, (h.block _ (by omega)).trans cvb, (q5.out.trans (bvb.mono (by omega))).trans (h.mono (by omega))⟩
    clear hvb bvb cvb R5 q5
    have T6 := KB.out _ (Below.refl _ _)
    refine (impl_sameAt aX aY _ _ l l2 n n2 _ (KA.out _ T6.2.2).1 T6.1 HE.out HE2.out).mono ?_
    clear T6
    rintro e w6 ⟨rfl, hb6⟩
    rw [← HRB.out, ← HRC.out]
    have q6 : Hid (Below vb.heap.size vb w6) := hb6
    have z6 := hb6.size
    have T6 := KB.out _ hb6
    have x6 := fun o => row_cell (KA.out _ T6.2.2).2.1 o
    have c6 := fun o => row_cell (KV.out _ (KA.out _ T6.2.2).2.2).1 o
    clear hb6 T6
    go_wp2_with fail
    go_cut [52] from 48 to 52 (fun u wx => u = .bool false ∧ Below w6.heap.size w6 wx)
    case first =>
      go_region_with (first
        | (go_at_call 7
           refine Calls.mono (to_store a c l n _ (K0.out _ ?hb).1 HE.out) ?_
           case hb => exact (KV.out _ (KA.out _ (KB.out _ q6.out.drew).2.2).2.2).2.2
           rintro e v6 ⟨a6, b6, rfl, r6, hb6⟩
           have e6 := fun o => (hb6.cell (p := ⟨w4.heap.size, o, none⟩) (show w4.heap.size < w6.heap.size by omega)).trans (x6 o)
           have R6 : Hid (ChRow 0 v6.heap.size v6 a6 l) := ChRow.wide r6.row (Nat.zero_le _) (Nat.le_refl _)
           have p6 : Hid (Below w6.heap.size w6 v6) := (Below.refl _ _).drew.trans (hb6.mono (Nat.le_refl _))
           clear r6 hb6)
        | (go_at_call 10
           refine (eq_store aX _ _ _ l n _ (KA.out _ (KB.out _ (q6.out.trans (p6.out.mono (by omega)))).2.2).1 R6.out HE.out).mono ?_
           rintro e v7 ⟨rfl, hb7⟩
           have p7 : Hid (Below w6.heap.size w6 v7) := p6.out.trans (hb7.mono (by have := p6.out.size; omega))))
      all_goals (try go_wp2_with fail)
      all_goals go_meet
      all_goals exact ⟨rfl, p7.out⟩
    obtain ⟨rfl, hb7⟩ := hcut
    have z7 := hb7.size
    have q7 : Hid (Below vb.heap.size vb wc) := q6.out.trans (hb7.mono (by omega))
    clear hb7 x6 c6 q6
    have T7 := KB.out _ q7.out
    have x7 := fun o => row_cell T7.2.1 o
    have c7 := fun o => row_cell (KV.out _ (KA.out _ T7.2.2).2.2).2.1 o
    clear T7
    obtain ⟨w7, hw7⟩ : ∃ x, x = wc := ⟨_, rfl⟩
    subst hw7
    go_wp2_with fail
    go_region_with (first
      | (go_at_call 7
         refine Calls.mono (to_store a' c' l2 n2 _ (K0.out _ ?hb).2 HE2.out) ?_
         case hb => exact (KV.out _ (KA.out _ (KB.out _ q7.out.drew).2.2).2.2).2.2
         rintro e v6 ⟨a6, b6, rfl, r6, hb6⟩
         have e6 := fun o => (hb6.cell (p := ⟨w5.heap.size, o, none⟩) (show w5.heap.size < w7.heap.size by omega)).trans (x7 o)
         have R6 : Hid (ChRow 0 v6.heap.size v6 a6 l2) := ChRow.wide r6.row (Nat.zero_le _) (Nat.le_refl _)
         have p6 : Hid (Below w7.heap.size w7 v6) := (Below.refl _ _).drew.trans (hb6.mono (Nat.le_refl _))
         clear r6 hb6)
      | (go_at_call 10
         refine (eq_store aY _ _ _ l2 n2 _ (KB.out _ (q7.out.trans (p6.out.mono (by omega)))).1 R6.out HE2.out).mono ?_
         rintro e v7 ⟨rfl, hb7⟩
         have p7 : Hid (Below w7.heap.size w7 v7) := p6.out.trans (hb7.mono (by have := p6.out.size; omega))))
    all_goals
      have QE : Hid (Below w.heap.size w v7) := (KV.out _ (KA.out _ (KB.out _ (q7.out.trans (p7.out.mono (by omega)))).2.2).2.2).2.2
      go_wp2_with fail
      go_ret
      exact ⟨rfl, QE.out⟩

set_option maxRecDepth 100000 in
theorem lifted (os : Os) (started : os.Started) (H : Type) (enc : TypeId × Value → H) :
    ReturnsInHanded {} Try.checked os 4 .any (Rows.fnExactSameAtSpec.pre6 enc Try.prog Try.f4 Rows.fnExactSameAtRow.domain false) (Rows.fnExactSameAtSpec.post enc Try.prog Try.f4 false true false false) := by
  refine returnsInHanded_of_change (C := Try.checked) own started (by kernel_rfl) Try.func4
    (ChangeSpec.witness6 (enc := enc) (C := Try.checked) false ⟨#[], #[.agg #[.slice none 0 0, .int .i64 0], .agg #[.slice none 0 0, .int .i64 0]], []⟩ 8 (by kernel_rfl) (by kernel_rfl) (by kernel_rfl) (by kernel_rfl)) ?_
  intro W base args ds gs before hval0 hW hcnd _
  have hval : ∀ (j : Nat) t v, Try.f4.params[j]? = some t → args[j]? = some v → Value.okWide Try.prog W .any base t v := hval0
  have hW' := hW
  obtain ⟨p, q, hA0, hV, rfl, hfz, hnd⟩ := hW
  have hA : DataW.TrodAll enc Try.prog W 0 (fun _ => true) true Try.f4.params.toList args.toList ds p := hA0
  rw [Try.params4] at hA hval
  obtain ⟨v0, vs0, d0, ds0, p0, q0, hargs, rfl, rfl, h0, r0⟩ := trodAll_cons hA
  obtain ⟨v1, vs1, d1, ds1, p1, q1, rfl, rfl, rfl, h1, r1⟩ := trodAll_cons r0
  obtain ⟨rfl, rfl, rfl⟩ := trodAll_nil r1
  obtain rfl : args = #[v0, v1] := by cases args; simp_all
  obtain ⟨rfl, rfl⟩ := trodVars_none hV
  have g0 := h0
  have lt0 : ∀ x ∈ p0, x.block < W.heap.size := by obtain ⟨m, hm⟩ := g0; exact DataW.trod_lt m _ _ _ hm
  obtain ⟨a0, c0, l0, n0, rfl, hb0, hr0⟩ : ∃ a c, ∃ l : Chs, ∃ n : Int, v0 = .agg #[.slice a l.length c, .int .i64 n] ∧ ChsBd maxLen l ∧ ChRow 0 W.heap.size W a l := by
    obtain ⟨cs, rfl, hsz⟩ := okWide_struct Try.underlying24 (hval 0 24 v0 rfl rfl)
    obtain ⟨fuel, hf⟩ := h0
    obtain ⟨y0, y1, n, hx, hlen, h1, h2⟩ := trod_struct2 Try.underlying24 hf
    have cd : Try.prog.cellsOf 24 = 2 := by kernel_rfl
    have c1 : Try.prog.cellsOf 22 = 1 := by kernel_rfl
    have ci : Try.prog.cellsOf 3 = 1 := by kernel_rfl
    obtain ⟨u⟩ := cs
    have hu : u.length = 2 := by rw [cd] at hsz; simpa using hsz
    obtain ⟨q0, q1, rfl⟩ := listTwo hu
    obtain ⟨a, c, l, e, hb, hr⟩ := Chs_open (by simpa [Value.cells, c1] using h1)
    obtain ⟨z, e2, _, _⟩ := DataW.trod_int Try.underlying3 h2
    simp [Value.cells, ci] at e e2
    subst e e2
    exact ⟨a, c, l, z, rfl, hb, hr⟩
  have g1 := h1
  have lt1 : ∀ x ∈ p1, x.block < W.heap.size := by obtain ⟨m, hm⟩ := g1; exact DataW.trod_lt m _ _ _ hm
  obtain ⟨a1, c1, l1, n1, rfl, hb1, hr1⟩ : ∃ a c, ∃ l : Chs, ∃ n : Int, v1 = .agg #[.slice a l.length c, .int .i64 n] ∧ ChsBd maxLen l ∧ ChRow 0 W.heap.size W a l := by
    obtain ⟨cs, rfl, hsz⟩ := okWide_struct Try.underlying24 (hval 1 24 v1 rfl rfl)
    obtain ⟨fuel, hf⟩ := h1
    obtain ⟨y0, y1, n, hx, hlen, h1, h2⟩ := trod_struct2 Try.underlying24 hf
    have cd : Try.prog.cellsOf 24 = 2 := by kernel_rfl
    have c1 : Try.prog.cellsOf 22 = 1 := by kernel_rfl
    have ci : Try.prog.cellsOf 3 = 1 := by kernel_rfl
    obtain ⟨u⟩ := cs
    have hu : u.length = 2 := by rw [cd] at hsz; simpa using hsz
    obtain ⟨q0, q1, rfl⟩ := listTwo hu
    obtain ⟨a, c, l, e, hb, hr⟩ := Chs_open (by simpa [Value.cells, c1] using h1)
    obtain ⟨z, e2, _, _⟩ := DataW.trod_int Try.underlying3 h2
    simp [Value.cells, ci] at e e2
    subst e e2
    exact ⟨a, c, l, z, rfl, hb, hr⟩
  clear hA0 hval0
  refine (walk a0 c0 l0 n0 a1 c1 l1 n1 W hr0 hb0 hr1 hb1).mono fun e W' ⟨he, bel⟩ => ?_
  subst he
  exact ⟨_, rfl, _, _, _, [], _, [], hW', trodAll_mk1 (shut_bool Try.underlying4 _), (trodAll_cons_mk (Below.trod laidOut (by kernel_rfl) (of_decide_eq_true (by kernel_rfl)) g0 bel lt0) (trodAll_cons_mk (Below.trod laidOut (by kernel_rfl) (of_decide_eq_true (by kernel_rfl)) g1 bel lt1) trodAll_mk0)), rfl, bel.frame _, fun h => by cases h⟩

theorem over : Rows.fnExactSameAtRow.holds Try.pinned (OpenSpec.ofChange Rows.fnExactSameAtSpec) :=
  OpenClaim.holds_of_wide 4 Try.f4 rfl rfl rfl rfl rfl rfl rfl ⟨rfl, rfl, rfl, rfl, rfl⟩ rfl rfl rfl rfl rfl (by kernel_rfl) Try.func4 (by kernel_rfl)
    (of_decide_eq_true (by kernel_rfl)) (by unfold Func.isWrapper; first | (rw [if_pos (by decide +kernel)]; kernel_rfl) | (rw [if_neg (by decide +kernel)]; exact ⟨rfl, rfl⟩))
    (fun os started H enc _ => lifted os started H enc)
end Go.Proofs.Ytddjcemkopidbab.fnExactSameAt
namespace Go.Proofs.Ytddjcemkopidbab
theorem sameAt_holds : Rows.FnExactSameAtSaid := fnExactSameAt.over
#print axioms sameAt_holds
end Go.Proofs.Ytddjcemkopidbab
