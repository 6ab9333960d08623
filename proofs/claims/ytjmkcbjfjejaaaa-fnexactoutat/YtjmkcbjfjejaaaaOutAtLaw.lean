/- Proved: at every value and name the law FnExactOutAt returns true, and its arguments read afterwards as they read before. No conditions beyond the row's own. -/
import Derived.Test.YtjmkcbjfjejaaaaOuAtBoth
import Derived.Test.YtjmkcbjfjejaaaaOuHeld
import Derived.Test.YtjmkcbjfjejaaaaOuSzW
import Derived.Test.YtjmkcbjfjejaaaaOuTo
import Derived.Test.YtjmkcbjfjejaaaaOuEq
import Derived.WalkKit
import Derived.ProofKit
import Derived.OpenShut
import Derived.ShutString
import Derived.ChangeOld
import Derived.Below
import Derived.Lib.SmallJoins
import Derived.Deep.CutRange
import Derived.Deep.CutBlock
namespace Go.Proofs.Ytjmkcbjfjejaaaa.fnExactOutAt
open Go.ChangeShapes Go.WideShapes Go.ChangeAt Go.RowKit
open Go.ChangeMaps (open_string shut_string)
open Go.Proofs.Ytjmkcbjfjejaaaa.G
set_option linter.unusedVariables false

theorem own : ownKnob Try.prog.godebug = none := by kernel_rfl
theorem laidOut : laidOutB Try.prog = true := by kernel_rfl

theorem pickO_c {key : ByteArray} : ∀ {ks : List ByteArray} {l : Ous} {x : Oh} {s : Ous}, pickO ks l key = some (x, s) → cO s ≤ cO l
  | [], l, x, s, h => by simp [pickO] at h
  | k :: ks, .nil, x, s, h => by simp [pickO] at h
  | k :: ks, .cons h' s' r, x, s, h => by
    rw [pickO] at h
    simp only [cO]
    split at h
    · simp only [Option.some.injEq, Prod.mk.injEq] at h
      obtain ⟨rfl, rfl⟩ := h
      omega
    · have := pickO_c h
      omega
theorem at_c {h : Oh} {sub : Ous} {key : ByteArray} {x : Oh} {s : Ous} {y : Int} (H : AtR h sub key x s y) : cO s ≤ cO sub := by
  rcases H with ⟨_, rfl, rfl, _⟩ | ⟨_, ⟨_, rfl, rfl, _⟩ | ⟨_, ⟨_, rfl, rfl, _⟩ | ⟨c, _⟩⟩⟩
  · exact Nat.zero_le _
  · exact Nat.zero_le _
  · exact Nat.zero_le _
  · exact pickO_c c
set_option maxHeartbeats 16000000 in
set_option maxRecDepth 40000 in
theorem walk (h : Oh) (sub : Ous) (key : ByteArray) (a1 a2 : Option Addr) (c1 c2 : Nat) (w : World) (hr : KeRow 0 w.heap.size w a1 h.keys) (hq : OuRow 0 w.heap.size w a2 sub) (hb : OhBd maxLen h) (hl : sub.len ≤ maxLen) (hs : OusBd maxLen sub) (hk : key.size ≤ maxLen) :
    Calls Try.prog 5 #[.agg #[.int .i64 h.k, .int .i64 h.n, .string h.t, .slice a1 h.keys.length c1, .slice a2 sub.len c2], .string key] w fun e w' => e = .returned (.bool true) ∧ Below w.heap.size w w' := by
  have B0 : Hid (Below w.heap.size w (w.alloc (.cells #[.int .i64 h.k, .int .i64 h.n, .string h.t, .slice a1 h.keys.length c1, .slice a2 sub.len c2] 25))) := (Below.refl _ _).alloc (Nat.le_refl _) _
  have K0 : Hid (∀ W0, Below w.heap.size w W0 → KeRow 0 W0.heap.size W0 a1 h.keys ∧ OuRow 0 W0.heap.size W0 a2 sub) := fun W0 hB => ⟨KeRow.up hr hB, OuRow.up hq hB⟩
  have HD : Hid (OhBd maxLen h ∧ OusBd maxLen sub) := ⟨hb, hs⟩
  clear hr hq hb hs
  have hk' := hk
  unfold maxLen at hk'
  by_cases hsz : 1048576 < key.size
  · go_enter Try.func5, Try.ntmps5
    go_wp2_with fail
    go_ret
    exact ⟨rfl, B0.out⟩
  have hkz : key.size ≤ 1048576 := by omega
  go_enter Try.func5, Try.ntmps5
  go_wp2_with fail
  refine (sz_out_w h sub (sz_ous_w sub) a1 a2 c1 c2 1048576 _ (K0.out _ B0.out).1 (K0.out _ B0.out).2 HD.out.1 hl HD.out.2 (by omega) (by omega)).mono ?_
  rintro e w1 ⟨m, rfl, hm, hb1⟩
  have HM : Hid _ := hm
  clear hm
  have C1 : Hid (w1.heap[w.heap.size]? = some (.cells #[.int .i64 h.k, .int .i64 h.n, .string h.t, .slice a1 h.keys.length c1, .slice a2 sub.len c2] 25 (0, 0))) := (hb1.block _ (by simp)).trans (heap_alloc_new _ _)
  have z1 : w.heap.size + 1 ≤ w1.heap.size := size_one hb1
  have q1 : Hid (Below w.heap.size w w1) := below_one hb1
  clear hb1
  by_cases hneg : m < 0
  · go_wp2_with fail
    go_ret
    exact ⟨rfl, q1.out⟩
  have HE : Hid (OhBd 1048576 h ∧ sub.len ≤ 1048576 ∧ OusBd 1048576 sub) := (HM.out.2.2 (by omega)).1
  have HW : Hid (1 + h.keys.length + cO sub ≤ 5000000) := by have h1 := (HM.out.2.2 (by omega)).2; have h2 := cO_w sub; unfold Hid; omega
  clear HM
  have x1c := fun o => row_cell C1.out o
  go_wp2_with fail
  refine (to_out h sub (to_ous sub) a1 a2 c1 c2 _ (K0.out _ q1.out).1 (K0.out _ q1.out).2 HE.out.1 HE.out.2.1 HE.out.2.2).mono ?_
  rintro e w2 ⟨b2, e2, rfl, r2, o2, hb2⟩
  have RA : Hid (KeRow 0 w2.heap.size w2 b2 h.keys ∧ OuRow 0 w2.heap.size w2 e2 sub) := ⟨KeRow.wide r2 (Nat.zero_le _) (Nat.le_refl _), OuRow.wide o2 (Nat.zero_le _) (Nat.le_refl _)⟩
  have C2 : Hid (w2.heap[w.heap.size]? = some (.cells #[.int .i64 h.k, .int .i64 h.n, .string h.t, .slice a1 h.keys.length c1, .slice a2 sub.len c2] 25 (0, 0))) := (hb2.block _ (by omega)).trans C1.out
  have z2 : w.heap.size + 1 ≤ w2.heap.size := by have := hb2.size; omega
  have q2 : Hid (Below w.heap.size w w2) := q1.out.trans (hb2.mono (by omega))
  clear r2 o2 hb2 x1c C1
  go_wp2_with fail
  refine (spec_outAt h sub key b2 e2 _ _ w2 RA.out.1 (Nat.le_refl _) RA.out.2 HE.out.1 HE.out.2.1 HE.out.2.2 hkz).mono ?_
  rintro e w3 ⟨⟨x, s, y, s1, t1, s2, t2, rfl, hxs, A3, A3'⟩, hb3⟩
  unfold ohV
  have HXS : Hid (AtR h sub key x s y) := hxs
  have HF : Hid (OhBd 1048576 x ∧ s.len ≤ 1048576 ∧ OusBd 1048576 s) := hxs.bd HE.out.2.2
  have HWX : Hid (1 + x.keys.length + cO s ≤ 7000000) := by have h1 := HF.out.1.2.1; have h2 := at_c hxs; have h3 := HW.out; unfold Hid; omega
  have AS : Hid (KeRow 0 w3.heap.size w3 s1 x.keys ∧ OuRow 0 w3.heap.size w3 s2 s) := ⟨A3, A3'⟩
  have C3 : Hid (w3.heap[w.heap.size]? = some (.cells #[.int .i64 h.k, .int .i64 h.n, .string h.t, .slice a1 h.keys.length c1, .slice a2 sub.len c2] 25 (0, 0))) := (hb3.block _ (by omega)).trans C2.out
  have z3 : w.heap.size + 1 ≤ w3.heap.size := by have := hb3.size; omega
  have q3 : Hid (Below w.heap.size w w3) := q2.out.trans (hb3.mono (by omega))
  clear hb3 hxs A3 A3' RA q2 q1 C2
  have x3c := fun o => row_cell C3.out o
  have x3p := fun ob o => (((Below.refl w3.heap.size w3).alloc (Nat.le_refl _) ob).cell (p := ⟨w.heap.size, o, none⟩) (show w.heap.size < w3.heap.size by omega)).trans (x3c o)
  go_wp2_with fail
  clear x3c x3p
  obtain ⟨va, hva⟩ : ∃ W, W = w3.alloc (.cells #[.int .i64 x.k, .int .i64 x.n, .string x.t, .slice s1 x.keys.length t1, .slice s2 s.len t2] 30) := ⟨_, rfl⟩
  rw [← hva]
  have za : va.heap.size = w3.heap.size + 1 := by rw [hva]; simp
  have HG : Hid (va.heap[w3.heap.size]? = some (.cells #[.int .i64 x.k, .int .i64 x.n, .string x.t, .slice s1 x.keys.length t1, .slice s2 s.len t2] 30 (0, 0))) := by rw [hva]; exact heap_alloc_new _ _
  have ba : Below w3.heap.size w3 va := by rw [hva]; exact (Below.refl _ _).alloc (Nat.le_refl _) _
  have qa : Hid (Below w.heap.size w va) := q3.out.trans (ba.mono (by omega))
  have ASa : Hid (KeRow 0 va.heap.size va s1 x.keys ∧ OuRow 0 va.heap.size va s2 s) := ⟨KeRow.up AS.out.1 ba, OuRow.up AS.out.2 ba⟩
  have Ca : Hid (va.heap[w.heap.size]? = some (.cells #[.int .i64 h.k, .int .i64 h.n, .string h.t, .slice a1 h.keys.length c1, .slice a2 sub.len c2] 25 (0, 0))) := (ba.block _ (by omega)).trans C3.out
  clear hva ba C3 AS
  have KA : Hid (∀ W, Below va.heap.size va W → (KeRow 0 W.heap.size W s1 x.keys ∧ OuRow 0 W.heap.size W s2 s) ∧ W.heap[w3.heap.size]? = some (.cells #[.int .i64 x.k, .int .i64 x.n, .string x.t, .slice s1 x.keys.length t1, .slice s2 s.len t2] 30 (0, 0)) ∧ W.heap[w.heap.size]? = some (.cells #[.int .i64 h.k, .int .i64 h.n, .string h.t, .slice a1 h.keys.length c1, .slice a2 sub.len c2] 25 (0, 0)) ∧ Below w.heap.size w W) := fun W hW =>
    ⟨⟨KeRow.up ASa.out.1 hW, OuRow.up ASa.out.2 hW⟩, (hW.block _ (by omega)).trans HG.out, (hW.block _ (by omega)).trans Ca.out, qa.out.trans (hW.mono (by omega))⟩
  refine (to_out_o h sub (to_ous_o sub) a1 a2 c1 c2 _ (K0.out _ qa.out).1 (K0.out _ qa.out).2 HE.out.1 HE.out.2.1 HE.out.2.2).mono ?_
  rintro e w4 ⟨b4, e4, rfl, o4, hb4⟩
  have HO4 : Hid (PartsO va.heap.size w4.heap.size w4 b4 e4 h sub) := o4
  have z4 : va.heap.size ≤ w4.heap.size := hb4.size
  have U4 : Hid (Below va.heap.size va w4) := hb4
  clear hb4 o4 Ca HG ASa qa q3
  go_wp2_with fail
  obtain ⟨vb, hvb⟩ : ∃ W, W = w4.alloc (.cells #[.int .i64 h.k, .int .i64 h.n, .string h.t, .slice b4 h.keys.length h.keys.length, .slice e4 sub.len sub.len] 30) := ⟨_, rfl⟩
  rw [← hvb]
  have zb : vb.heap.size = w4.heap.size + 1 := by rw [hvb]; simp
  have bb : Below w4.heap.size w4 vb := by rw [hvb]; exact (Below.refl _ _).alloc (Nat.le_refl _) _
  have xb : vb.heap[w4.heap.size]? = some (.cells #[.int .i64 h.k, .int .i64 h.n, .string h.t, .slice b4 h.keys.length h.keys.length, .slice e4 sub.len sub.len] 30 (0, 0)) := by rw [hvb]; exact heap_alloc_new _ _
  have Ub : Hid (Below va.heap.size va vb) := U4.out.trans (bb.mono (by omega))
  have HOb : Hid (PartsO va.heap.size w4.heap.size vb b4 e4 h sub) := PartsO.keep HO4.out (fun g _ h2 => bb.block g h2)
  clear hvb bb U4 HO4
  have KB : Hid (∀ W, Below vb.heap.size vb W → W.heap[w4.heap.size]? = some (.cells #[.int .i64 h.k, .int .i64 h.n, .string h.t, .slice b4 h.keys.length h.keys.length, .slice e4 sub.len sub.len] 30 (0, 0)) ∧ PartsO va.heap.size w4.heap.size W b4 e4 h sub ∧ (KeRow 0 W.heap.size W b4 h.keys ∧ OuRow 0 W.heap.size W e4 sub) ∧ Below va.heap.size va W) := fun W hW =>
    have o := PartsO.keep HOb.out (fun g _ h2 => hW.block g (by omega))
    have hz := hW.size
    have r := PartsO.rows o
    ⟨(hW.block _ (by omega)).trans xb, o, ⟨KeRow.wide r.1 (Nat.zero_le _) (by omega), OuRow.wide r.2 (Nat.zero_le _) (by omega)⟩, Ub.out.trans (hW.mono (by omega))⟩
  clear xb
  refine (impl_outAt h sub key b4 e4 _ _ vb (KB.out _ (Below.refl _ _)).2.2.1.1 (Nat.le_refl _) (KB.out _ (Below.refl _ _)).2.2.1.2 HE.out.1 HE.out.2.1 HE.out.2.2 hkz).mono ?_
  rintro e w5 ⟨⟨xi, si, yi, i1, j1, i2, j2, rfl, hxi, A5⟩, hb5⟩
  obtain ⟨rfl, rfl, rfl⟩ : x = xi ∧ s = si ∧ y = yi := AtR.one HXS.out hxi
  unfold ohV
  have AI5 : Hid (PartsO vb.heap.size w5.heap.size w5 i1 i2 x s) := A5
  have z5 : vb.heap.size ≤ w5.heap.size := hb5.size
  have V5 : Hid (Below vb.heap.size vb w5) := hb5
  have G5 : Hid (w5.heap[w3.heap.size]? = some (.cells #[.int .i64 x.k, .int .i64 x.n, .string x.t, .slice s1 x.keys.length t1, .slice s2 s.len t2] 30 (0, 0))) := (KA.out _ (KB.out _ hb5).2.2.2).2.1
  clear hxi A5 hb5
  have gc := fun o => row_cell G5.out o
  have gp := fun ob o => (((Below.refl w5.heap.size w5).alloc (Nat.le_refl _) ob).cell (p := ⟨w3.heap.size, o, none⟩) (show w3.heap.size < w5.heap.size by omega)).trans (gc o)
  go_wp2_with fail
  clear gc gp G5
  obtain ⟨vd, hvd⟩ : ∃ W, W = w5.alloc (.cells #[.int .i64 x.k, .int .i64 x.n, .string x.t, .slice i1 x.keys.length j1, .slice i2 s.len j2] 30) := ⟨_, rfl⟩
  rw [← hvd]
  have zd : vd.heap.size = w5.heap.size + 1 := by rw [hvd]; simp
  have bd : Below w5.heap.size w5 vd := by rw [hvd]; exact (Below.refl _ _).alloc (Nat.le_refl _) _
  have HHd : Hid (vd.heap[w5.heap.size]? = some (.cells #[.int .i64 x.k, .int .i64 x.n, .string x.t, .slice i1 x.keys.length j1, .slice i2 s.len j2] 30 (0, 0))) := by rw [hvd]; exact heap_alloc_new _ _
  have AId : Hid (PartsO vb.heap.size w5.heap.size vd i1 i2 x s) := PartsO.keep AI5.out (fun g _ h2 => bd.block g h2)
  have Vd : Hid (Below vb.heap.size vb vd) := V5.out.trans (bd.mono (by omega))
  clear hvd bd AI5 V5
  have KD : Hid (∀ W, Below vd.heap.size vd W → W.heap[w5.heap.size]? = some (.cells #[.int .i64 x.k, .int .i64 x.n, .string x.t, .slice i1 x.keys.length j1, .slice i2 s.len j2] 30 (0, 0)) ∧ PartsO vb.heap.size w5.heap.size W i1 i2 x s ∧ (KeRow 0 W.heap.size W i1 x.keys ∧ OuRow 0 W.heap.size W i2 s) ∧ Below vb.heap.size vb W) := fun W hW =>
    have o := PartsO.keep AId.out (fun g _ h2 => hW.block g (by omega))
    have hz := hW.size
    have r := PartsO.rows o
    ⟨(hW.block _ (by omega)).trans HHd.out, o, ⟨KeRow.wide r.1 (Nat.zero_le _) (by omega), OuRow.wide r.2 (Nat.zero_le _) (by omega)⟩, Vd.out.trans (hW.mono (by omega))⟩
  clear HHd AId Vd
  refine (eq_out x s (eq_ous s) i1 i2 s1 s2 _ _ _ _ _ (KD.out _ (Below.refl _ _)).2.2.1.1 (KD.out _ (Below.refl _ _)).2.2.1.2 (KA.out _ (KB.out _ (KD.out _ (Below.refl _ _)).2.2.2).2.2.2).1.1 (KA.out _ (KB.out _ (KD.out _ (Below.refl _ _)).2.2.2).2.2.2).1.2 HF.out.1 HF.out.2.1 HF.out.2.2).mono ?_
  rintro e w6 ⟨rfl, hb6⟩
  have z6 : vd.heap.size ≤ w6.heap.size := hb6.size
  have D6 : Hid (Below vd.heap.size vd w6) := hb6
  clear hb6
  have X6 : Hid (w6.heap[w4.heap.size]? = some (.cells #[.int .i64 h.k, .int .i64 h.n, .string h.t, .slice b4 h.keys.length h.keys.length, .slice e4 sub.len sub.len] 30 (0, 0))) := (KB.out _ (KD.out _ D6.out).2.2.2).1
  have C6 : Hid (w6.heap[w.heap.size]? = some (.cells #[.int .i64 h.k, .int .i64 h.n, .string h.t, .slice a1 h.keys.length c1, .slice a2 sub.len c2] 25 (0, 0))) := (KA.out _ (KB.out _ (KD.out _ D6.out).2.2.2).2.2.2).2.2.1
  have x6c := fun o => row_cell X6.out o
  have c6c := fun o => row_cell C6.out o
  go_wp2_with fail
  go_cut [52] from 48 to 52 (fun u wx => u = .bool false ∧ Below w6.heap.size w6 wx)
  case first =>
    go_region_with (first
      | (go_at_call 8
         refine Calls.mono (to_out h sub (to_ous sub) a1 a2 c1 c2 _ (K0.out _ ?hb).1 (K0.out _ ?hb).2 HE.out.1 HE.out.2.1 HE.out.2.2) ?_
         case hb => exact (KA.out _ (KB.out _ (KD.out _ D6.out.drew).2.2.2).2.2.2).2.2.2
         rintro e v6 ⟨b6, e6, rfl, r6, o6, hb6⟩
         have X7 : Hid (v6.heap[w4.heap.size]? = some (.cells #[.int .i64 h.k, .int .i64 h.n, .string h.t, .slice b4 h.keys.length h.keys.length, .slice e4 sub.len sub.len] 30 (0, 0))) := (hb6.block _ (show w4.heap.size < w6.heap.size by omega)).trans X6.out
         have x7c := fun o => row_cell X7.out o
         have R6 : Hid (KeRow 0 v6.heap.size v6 b6 h.keys ∧ OuRow 0 v6.heap.size v6 e6 sub) := ⟨KeRow.wide r6 (Nat.zero_le _) (Nat.le_refl _), OuRow.wide o6 (Nat.zero_le _) (Nat.le_refl _)⟩
         have p6 : Hid (Below w6.heap.size w6 v6) := (Below.refl _ _).drew.trans (hb6.mono (by first | omega | (simp <;> omega)))
         clear r6 o6 hb6)
      | (go_at_call 10
         refine (eq_out h sub (eq_ous sub) b4 e4 b6 e6 _ _ _ _ _ (KB.out _ (KD.out _ (D6.out.trans (p6.out.mono (by omega)))).2.2.2).2.2.1.1 (KB.out _ (KD.out _ (D6.out.trans (p6.out.mono (by omega)))).2.2.2).2.2.1.2 R6.out.1 R6.out.2 HE.out.1 HE.out.2.1 HE.out.2.2).mono ?_
         rintro e v7 ⟨rfl, hb7⟩
         have p7 : Hid (Below w6.heap.size w6 v7) := p6.out.trans (hb7.mono (by have := p6.out.size; omega))))
    all_goals (try go_wp2_with fail)
    all_goals go_meet
    all_goals exact ⟨rfl, p7.out⟩
  obtain ⟨rfl, hb7⟩ := hcut
  have z7 : w6.heap.size ≤ wc.heap.size := hb7.size
  have D7 : Hid (Below vd.heap.size vd wc) := D6.out.trans (hb7.mono (by omega))
  clear hb7 x6c c6c X6 C6 D6
  have X7 : Hid (wc.heap[w4.heap.size]? = some (.cells #[.int .i64 h.k, .int .i64 h.n, .string h.t, .slice b4 h.keys.length h.keys.length, .slice e4 sub.len sub.len] 30 (0, 0))) := (KB.out _ (KD.out _ D7.out).2.2.2).1
  have x7c := fun o => row_cell X7.out o
  go_wp2_with fail
  refine Calls.mono (mark_out h sub b4 e4 _ _ va.heap.size w4.heap.size 1 wc (KB.out _ (KD.out _ D7.out).2.2.2).2.1 (by omega) (by omega) (by have := HW.out; omega)) ?_
  rintro e w8 ⟨r, rfl, hr, _, k8⟩
  have hr0 : ¬ r < 0 := by omega
  have z8 : wc.heap.size ≤ w8.heap.size := k8.size
  have U8 : Hid (Below va.heap.size va w8) := (KB.out _ (KD.out _ D7.out).2.2.2).2.2.2.trans (k8.below (by omega) (Nat.le_refl _))
  have H8 : Hid (w8.heap[w5.heap.size]? = some (.cells #[.int .i64 x.k, .int .i64 x.n, .string x.t, .slice i1 x.keys.length j1, .slice i2 s.len j2] 30 (0, 0))) := (k8.block _ (by omega) (.inr (by omega))).trans (KD.out _ D7.out).1
  have AI8 : Hid (PartsO vb.heap.size w5.heap.size w8 i1 i2 x s) := PartsO.keep (KD.out _ D7.out).2.1 (fun g h1 h2 => k8.block g (by omega) (.inr (by omega)))
  have G8 : Hid (w8.heap[w3.heap.size]? = some (.cells #[.int .i64 x.k, .int .i64 x.n, .string x.t, .slice s1 x.keys.length t1, .slice s2 s.len t2] 30 (0, 0))) := (KA.out _ U8.out).2.1
  clear hr k8 x7c X7 D7 KD KB HOb
  have gc := fun o => row_cell G8.out o
  have ic := fun o => row_cell H8.out o
  go_wp2_with fail
  clear gc ic G8
  have r8 := PartsO.rows AI8.out
  refine (eq_out x s (eq_ous s) i1 i2 s1 s2 _ _ _ _ _ (KeRow.wide r8.1 (Nat.zero_le _) (by omega)) (OuRow.wide r8.2 (Nat.zero_le _) (by omega)) (KA.out _ U8.out).1.1 (KA.out _ U8.out).1.2 HF.out.1 HF.out.2.1 HF.out.2.2).mono ?_
  clear r8
  rintro e w9 ⟨rfl, hb9⟩
  have z9 : w8.heap.size ≤ w9.heap.size := hb9.size
  have U9 : Hid (Below va.heap.size va w9) := U8.out.trans (hb9.mono (by omega))
  have H9 : Hid (w9.heap[w5.heap.size]? = some (.cells #[.int .i64 x.k, .int .i64 x.n, .string x.t, .slice i1 x.keys.length j1, .slice i2 s.len j2] 30 (0, 0))) := (hb9.block _ (by omega)).trans H8.out
  have AI9 : Hid (PartsO vb.heap.size w5.heap.size w9 i1 i2 x s) := PartsO.keep AI8.out (fun g _ h2 => hb9.block g (by omega))
  clear hb9 U8 H8 AI8
  have ic := fun o => row_cell H9.out o
  go_wp2_with fail
  clear ic
  refine Calls.mono (mark_out x s i1 i2 _ _ vb.heap.size w5.heap.size 1 w9 AI9.out (by omega) (by omega) (by have := HWX.out; omega)) ?_
  rintro e w10 ⟨m1, rfl, hm, o10, k10⟩
  have z10 : w9.heap.size ≤ w10.heap.size := k10.size
  have U10 : Hid (Below va.heap.size va w10) := U9.out.trans (k10.below (by omega) (by omega))
  have H10 : Hid (w10.heap[w5.heap.size]? = some (.cells #[.int .i64 x.k, .int .i64 x.n, .string x.t, .slice i1 x.keys.length j1, .slice i2 s.len j2] 30 (0, 0))) := (k10.block _ (by omega) (.inr (by omega))).trans H9.out
  have r10 := PartsO.rows o10
  have R10 : Hid (KeRow 0 w10.heap.size w10 i1 (mkKe 1 x.keys) ∧ OuRow 0 w10.heap.size w10 i2 (mkO (1 + x.keys.length) s)) := ⟨KeRow.wide r10.1 (Nat.zero_le _) (by omega), OuRow.wide r10.2 (Nat.zero_le _) (by omega)⟩
  have HMK : Hid (m1 = ((1 + x.keys.length + cO s : Nat) : Int)) := hm
  have hm0 : ¬ m1 < 0 := by omega
  clear hm o10 k10 U9 H9 AI9 r10
  have ic := fun o => row_cell H10.out o
  go_wp2_with fail
  clear ic
  refine Calls.mono (held_out x s i1 i2 _ _ 1 w10 R10.out.1 R10.out.2 (by omega) (by have := HWX.out; omega)) ?_
  rintro e w11 ⟨m2, rfl, hm2, hb11⟩
  obtain rfl : m1 = m2 := HMK.out.trans hm2.symm
  have z11 : w10.heap.size ≤ w11.heap.size := hb11.size
  have B11 : Hid (Below w10.heap.size w10 w11) := hb11
  clear hm2 hb11
  have C11 : Hid (w11.heap[w.heap.size]? = some (.cells #[.int .i64 h.k, .int .i64 h.n, .string h.t, .slice a1 h.keys.length c1, .slice a2 sub.len c2] 25 (0, 0))) := (KA.out _ (U10.out.trans (B11.out.mono (by omega)))).2.2.1
  have cc := fun o => row_cell C11.out o
  go_wp2_with fail
  clear cc
  refine (to_out h sub (to_ous sub) a1 a2 c1 c2 _ (K0.out _ (KA.out _ (U10.out.trans (B11.out.mono (by omega)))).2.2.2).1 (K0.out _ (KA.out _ (U10.out.trans (B11.out.mono (by omega)))).2.2.2).2 HE.out.1 HE.out.2.1 HE.out.2.2).mono ?_
  rintro e w12 ⟨b12, e12, rfl, r12, o12, hb12⟩
  have z12 : w11.heap.size ≤ w12.heap.size := hb12.size
  have R12 : Hid (KeRow 0 w12.heap.size w12 b12 h.keys ∧ OuRow 0 w12.heap.size w12 e12 sub) := ⟨KeRow.wide r12 (Nat.zero_le _) (Nat.le_refl _), OuRow.wide o12 (Nat.zero_le _) (Nat.le_refl _)⟩
  have B12 : Hid (Below w10.heap.size w10 w12) := B11.out.trans (hb12.mono (by omega))
  clear r12 o12 hb12 B11 C11
  go_wp2_with fail
  refine (impl_outAt h sub key b12 e12 _ _ w12 R12.out.1 (Nat.le_refl _) R12.out.2 HE.out.1 HE.out.2.1 HE.out.2.2 hkz).mono ?_
  rintro e w13 ⟨⟨xi, si, yi, p1, p2, p3, p4, rfl, hxi, A13⟩, hb13⟩
  obtain ⟨rfl, rfl, rfl⟩ : x = xi ∧ s = si ∧ y = yi := AtR.one HXS.out hxi
  unfold ohV
  have z13 : w12.heap.size ≤ w13.heap.size := hb13.size
  have r13 := PartsO.rows A13
  have AH : Hid (KeRow 0 w13.heap.size w13 p1 x.keys ∧ OuRow 0 w13.heap.size w13 p3 s) := ⟨KeRow.wide r13.1 (Nat.zero_le _) (Nat.le_refl _), OuRow.wide r13.2 (Nat.zero_le _) (Nat.le_refl _)⟩
  have B13 : Hid (Below w10.heap.size w10 w13) := B12.out.trans (hb13.mono (by omega))
  have G13 : Hid (w13.heap[w3.heap.size]? = some (.cells #[.int .i64 x.k, .int .i64 x.n, .string x.t, .slice s1 x.keys.length t1, .slice s2 s.len t2] 30 (0, 0))) := (KA.out _ (U10.out.trans (B13.out.mono (by omega)))).2.1
  clear hxi A13 hb13 B12 R12 r13
  have gc := fun o => row_cell G13.out o
  have gp := fun ob o => (((Below.refl w13.heap.size w13).alloc (Nat.le_refl _) ob).cell (p := ⟨w3.heap.size, o, none⟩) (show w3.heap.size < w13.heap.size by omega)).trans (gc o)
  go_wp2_with fail
  clear gc gp G13
  obtain ⟨ve, hve⟩ : ∃ W, W = w13.alloc (.cells #[.int .i64 x.k, .int .i64 x.n, .string x.t, .slice p1 x.keys.length p2, .slice p3 s.len p4] 30) := ⟨_, rfl⟩
  rw [← hve]
  have ze : ve.heap.size = w13.heap.size + 1 := by rw [hve]; simp
  have be : Below w13.heap.size w13 ve := by rw [hve]; exact (Below.refl _ _).alloc (Nat.le_refl _) _
  have Be : Hid (Below w10.heap.size w10 ve) := B13.out.trans (be.mono (by omega))
  have AHe : Hid (KeRow 0 ve.heap.size ve p1 x.keys ∧ OuRow 0 ve.heap.size ve p3 s) := ⟨KeRow.up AH.out.1 be, OuRow.up AH.out.2 be⟩
  clear hve be AH B13
  refine (eq_out x s (eq_ous s) p1 p3 s1 s2 _ _ _ _ _ AHe.out.1 AHe.out.2 (KA.out _ (U10.out.trans (Be.out.mono (by omega)))).1.1 (KA.out _ (U10.out.trans (Be.out.mono (by omega)))).1.2 HF.out.1 HF.out.2.1 HF.out.2.2).mono ?_
  rintro e w14 ⟨rfl, hb14⟩
  have z14 : ve.heap.size ≤ w14.heap.size := hb14.size
  have B14 : Hid (Below w10.heap.size w10 w14) := Be.out.trans (hb14.mono (by omega))
  clear hb14 Be AHe
  have H14 : Hid (w14.heap[w5.heap.size]? = some (.cells #[.int .i64 x.k, .int .i64 x.n, .string x.t, .slice i1 x.keys.length j1, .slice i2 s.len j2] 30 (0, 0))) := (B14.out.block _ (by omega)).trans H10.out
  have ic := fun o => row_cell H14.out o
  go_wp2_with fail
  clear ic
  refine Calls.mono (held_out x s i1 i2 _ _ 1 w14 (KeRow.up R10.out.1 B14.out) (OuRow.up R10.out.2 B14.out) (by omega) (by have := HWX.out; omega)) ?_
  rintro e w15 ⟨m3, rfl, hm3, hb15⟩
  obtain rfl : m1 = m3 := HMK.out.trans hm3.symm
  have Q15 : Hid (Below w.heap.size w w15) := (KA.out _ (U10.out.trans ((B14.out.trans (hb15.mono (by omega))).mono (by omega)))).2.2.2
  clear hm3 hb15
  go_wp2_with fail
  go_ret
  exact ⟨rfl, Q15.out⟩

set_option maxRecDepth 100000 in
theorem lifted (os : Os) (started : os.Started) (H : Type) (enc : TypeId × Value → H) :
    ReturnsInHanded {} Try.checked os 5 .any (Rows.fnExactOutAtSpec.pre6 enc Try.prog Try.f5 Rows.fnExactOutAtRow.domain false) (Rows.fnExactOutAtSpec.post enc Try.prog Try.f5 false true false false) := by
  refine returnsInHanded_of_change (C := Try.checked) own started (by kernel_rfl) Try.func5
    (ChangeSpec.witness6 (enc := enc) (C := Try.checked) false ⟨#[], #[.agg #[.int .i64 0, .int .i64 0, .string ByteArray.empty, .slice none 0 0, .slice none 0 0], .string ByteArray.empty], []⟩ 8 (by kernel_rfl) (by kernel_rfl) (by kernel_rfl) (by kernel_rfl)) ?_
  intro W base args ds gs before hval0 hW hcnd _
  have hval : ∀ (j : Nat) t v, Try.f5.params[j]? = some t → args[j]? = some v → Value.okWide Try.prog W .any base t v := hval0
  have hW' := hW
  obtain ⟨p, q, hA0, hV, rfl, hfz, hnd⟩ := hW
  have hA : DataW.TrodAll enc Try.prog W 0 (fun _ => true) true Try.f5.params.toList args.toList ds p := hA0
  rw [Try.params5] at hA hval
  obtain ⟨v0, vs0, d0, ds0, p0, q0, hargs, rfl, rfl, h0, r0⟩ := trodAll_cons hA
  obtain ⟨v1, vs1, d1, ds1, p1, q1, rfl, rfl, rfl, h1, r1⟩ := trodAll_cons r0
  obtain ⟨rfl, rfl, rfl⟩ := trodAll_nil r1
  obtain rfl : args = #[v0, v1] := by cases args; simp_all
  obtain ⟨rfl, rfl⟩ := trodVars_none hV
  have g0 := h0
  have lt0 : ∀ x ∈ p0, x.block < W.heap.size := by obtain ⟨m, hm⟩ := g0; exact DataW.trod_lt m _ _ _ hm
  obtain ⟨oh0, os0, oa0, ob0, oc0, od0, rfl, oe0, hb0, hl0, hs0, hr0, hq0⟩ : ∃ (h : Oh) (sub : Ous) (a1 a2 : Option Addr) (c1 c2 : Nat), v0 = .agg #[.int .i64 h.k, .int .i64 h.n, .string h.t, .slice a1 h.keys.length c1, .slice a2 sub.len c2] ∧ h.keys.length ≤ c1 ∧ OhBd maxLen h ∧ sub.len ≤ maxLen ∧ OusBd maxLen sub ∧ KeRow 0 W.heap.size W a1 h.keys ∧ OuRow 0 W.heap.size W a2 sub := by
    obtain ⟨cs, rfl, hsz⟩ := okWide_struct Try.underlying25 (hval 0 25 v0 rfl rfl)
    obtain ⟨fuel, hf⟩ := h0
    obtain ⟨u⟩ := cs
    obtain ⟨h, sub, a1, a2, c1, c2, e, h1, h2, h3, h4, h5, h6⟩ := out_open (by simpa [Value.cells] using hf)
    subst e
    exact ⟨h, sub, a1, a2, c1, c2, rfl, h1, h2, h3, h4, h5, h6⟩
  have g1 := h1
  have lt1 : ∀ x ∈ p1, x.block < W.heap.size := by obtain ⟨m, hm⟩ := g1; exact DataW.trod_lt m _ _ _ hm
  obtain ⟨a1, rfl, _, _, w1⟩ := open_string Try.underlying9 (hval 1 9 v1 rfl rfl) h1
  clear hA0 hval0
  refine (walk oh0 os0 a1 oa0 ob0 oc0 od0 W hr0 hq0 hb0 hl0 hs0 w1).mono fun e W' ⟨he, bel⟩ => ?_
  subst he
  exact ⟨_, rfl, _, _, _, [], _, [], hW', trodAll_mk1 (shut_bool Try.underlying4 _), (trodAll_cons_mk (Below.trod laidOut (by kernel_rfl) (of_decide_eq_true (by kernel_rfl)) g0 bel lt0) (trodAll_cons_mk (Below.trod laidOut (by kernel_rfl) (of_decide_eq_true (by kernel_rfl)) g1 bel lt1) trodAll_mk0)), rfl, bel.frame _, fun h => by cases h⟩

theorem over : Rows.fnExactOutAtRow.holds Try.pinned (OpenSpec.ofChange Rows.fnExactOutAtSpec) :=
  OpenClaim.holds_of_wide 5 Try.f5 rfl rfl rfl rfl rfl rfl rfl ⟨rfl, rfl, rfl, rfl, rfl⟩ rfl rfl rfl rfl rfl (by kernel_rfl) Try.func5 (by kernel_rfl)
    (of_decide_eq_true (by kernel_rfl)) (by unfold Func.isWrapper; first | (rw [if_pos (by decide +kernel)]; kernel_rfl) | (rw [if_neg (by decide +kernel)]; exact ⟨rfl, rfl⟩))
    (fun os started H enc _ => lifted os started H enc)
end Go.Proofs.Ytjmkcbjfjejaaaa.fnExactOutAt
namespace Go.Proofs.Ytjmkcbjfjejaaaa
theorem outAt_holds : Rows.FnExactOutAtSaid := fnExactOutAt.over
#print axioms outAt_holds
end Go.Proofs.Ytjmkcbjfjejaaaa
