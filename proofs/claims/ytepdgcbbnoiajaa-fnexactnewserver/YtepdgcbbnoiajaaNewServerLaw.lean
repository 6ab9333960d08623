/- Proved: the law FnExactNewServer, which takes nothing, returns true. No conditions beyond the row's own. -/
import Derived.Test.YtepdgcbbnoiajaaNsSrv
import Derived.WalkKit
import Derived.ProofKit
import Derived.OpenShut
import Derived.ShutString
import Derived.ChangeOld
import Derived.Below
import Derived.Lib.SmallJoins
namespace Go.Proofs.Ytepdgcbbnoiajaa.fnExactNewServer
open Go.ChangeShapes Go.WideShapes Go.ChangeAt Go.RowKit
open Go.ChangeMaps (open_string shut_string)
open Go.Proofs.Ytepdgcbbnoiajaa.G
set_option linter.unusedVariables false

theorem own : ownKnob Try.prog.godebug = none := by kernel_rfl
theorem laidOut : laidOutB Try.prog = true := by kernel_rfl

set_option maxHeartbeats 4000000 in
set_option maxRecDepth 40000 in
theorem walk (w : World) :
    Calls Try.prog 3 #[] w fun e w' => e = .returned (.bool true) ∧ Below w.heap.size w w' := by
  obtain ⟨l, hn⟩ := noCh
  have HN : Hid (NoCh l) := hn
  have HE : Hid (ChsBd 1048576 l) := hn.bd
  have HZ : Hid (sizeN l = 0) := hn.size
  clear hn
  go_enter Try.func3, Try.ntmps3
  go_wp2_with fail
  refine (spec_srv l HN.out _).mono ?_
  rintro e w1 ⟨a1, p1, p2, rfl, o1, hb1⟩
  have R1 : Hid (ChRow 0 w1.heap.size w1 a1 l) := ChRow.wide o1.row (Nat.zero_le _) (Nat.le_refl _)
  have q1 : Hid (Below w.heap.size w w1) := hb1
  have z1 := hb1.size
  clear o1 hb1
  go_wp2_with fail
  obtain ⟨va, hva⟩ : ∃ W, W = w1.alloc (.cells #[.slice a1 l.length 16, .int .i64 0, .slice p1 0 0, .slice p2 0 0, .int .i64 1] 28) := ⟨_, rfl⟩
  rw [← hva]
  have za : va.heap.size = w1.heap.size + 1 := by rw [hva]; simp
  have ba : Below w1.heap.size w1 va := by rw [hva]; exact (Below.refl _ _).alloc (Nat.le_refl _) _
  have Ca : Hid (va.heap[w1.heap.size]? = some (.cells #[.slice a1 l.length 16, .int .i64 0, .slice p1 0 0, .slice p2 0 0, .int .i64 1] 28 (0, 0))) := by rw [Hid, hva]; exact heap_alloc_new _ _
  have Ra : Hid (ChRow 0 va.heap.size va a1 l) := ChRow.up R1.out ba
  have qa : Hid (Below w.heap.size w va) := q1.out.trans (ba.mono z1)
  clear hva ba R1 q1
  have KA : Hid (∀ W, Below va.heap.size va W → ChRow 0 W.heap.size W a1 l ∧ W.heap[w1.heap.size]? = some (.cells #[.slice a1 l.length 16, .int .i64 0, .slice p1 0 0, .slice p2 0 0, .int .i64 1] 28 (0, 0)) ∧ Below w.heap.size w W) := fun W h =>
    ⟨ChRow.up Ra.out h, (h.block _ (by omega)).trans Ca.out, qa.out.trans (h.mono (by omega))⟩
  clear Ra Ca
  refine (impl_srv l HN.out _).mono ?_
  rintro e w2 ⟨a2, rfl, o2, hb2⟩
  have O2 : Hid (StOwn (va.heap.size + 1) w2.heap.size w2 a2 l (fun _ => 0)) := o2
  have q2 : Hid (Below va.heap.size va w2) := hb2
  have z2 := hb2.size
  clear o2 hb2
  have c0 := (KA.out _ q2.out).2.1
  have y0 := fun o => (World.cell?_alloc_past (w := w2) o w1.heap.size 0 (by omega)).trans (row_cell c0 0)
  have y1 := fun o => (World.cell?_alloc_past (w := w2) o w1.heap.size 1 (by omega)).trans (row_cell c0 1)
  have y2 := fun o => (World.cell?_alloc_past (w := w2) o w1.heap.size 2 (by omega)).trans (row_cell c0 2)
  have y3 := fun o => (World.cell?_alloc_past (w := w2) o w1.heap.size 3 (by omega)).trans (row_cell c0 3)
  have y4 := fun o => (World.cell?_alloc_past (w := w2) o w1.heap.size 4 (by omega)).trans (row_cell c0 4)
  clear c0
  go_wp2_with fail
  clear y0 y1 y2 y3 y4
  obtain ⟨vb, hvb⟩ : ∃ W, W = w2.alloc (.cells #[.slice a2 l.length 16, .int .i64 0, .slice none 0 0, .slice none 0 0, .int .i64 1] 28) := ⟨_, rfl⟩
  rw [← hvb]
  have zb : vb.heap.size = w2.heap.size + 1 := by rw [hvb]; simp
  have bb : Below w2.heap.size w2 vb := by rw [hvb]; exact (Below.refl _ _).alloc (Nat.le_refl _) _
  have Cb : Hid (vb.heap[w2.heap.size]? = some (.cells #[.slice a2 l.length 16, .int .i64 0, .slice none 0 0, .slice none 0 0, .int .i64 1] 28 (0, 0))) := by rw [Hid, hvb]; exact heap_alloc_new _ _
  have Ob : Hid (StOwn (va.heap.size + 1) w2.heap.size vb a2 l (fun _ => 0)) := StOwn.keep O2.out (agree bb (Nat.le_refl _))
  have qb : Hid (Below va.heap.size va vb) := q2.out.trans (bb.mono z2)
  clear hvb bb O2 q2
  refine (eq_srv a2 a1 none p1 none p2 l _ (ChRow.wide Ob.out.row (Nat.zero_le _) (by omega)) (KA.out _ qb.out).1 HE.out).mono ?_
  rintro e w3 ⟨rfl, hb3⟩
  have C3 : Hid (w3.heap[w2.heap.size]? = some (.cells #[.slice a2 l.length 16, .int .i64 0, .slice none 0 0, .slice none 0 0, .int .i64 1] 28 (0, 0))) := (hb3.block _ (by omega)).trans Cb.out
  have O3 : Hid (StOwn (va.heap.size + 1) w2.heap.size w3 a2 l (fun _ => 0)) := StOwn.keep Ob.out (agree hb3 (by omega))
  have q3 : Hid (Below va.heap.size va w3) := qb.out.trans (hb3.mono (by omega))
  have z3 := hb3.size
  clear hb3 Ob qb Cb
  have c3 := fun o => row_cell C3.out o
  go_wp2_with fail
  refine (mark_srv a2 none none l _ _ 1 _ O3.out HE.out HZ.out (by omega) (by omega) (by omega)).mono ?_
  rintro e w4 ⟨r4, rfl, hr4, m4, k4⟩
  subst hr4
  have M4 : Hid _ := m4
  have C4 : Hid (w4.heap[w2.heap.size]? = some (.cells #[.slice a2 l.length 16, .int .i64 0, .slice none 0 0, .slice none 0 0, .int .i64 1] 28 (0, 0))) := (k4.block _ (by omega) (by omega)).trans C3.out
  have q4 : Hid (Below va.heap.size va w4) := q3.out.trans (k4.below (by omega) (Nat.le_succ _))
  have z4 := k4.size
  clear m4 k4 c3 C3 O3 q3
  have c4 := fun o => row_cell C4.out o
  go_wp2_with fail
  refine (held_srv a2 none none l _ _ 1 _ M4.out HE.out HZ.out (by omega) (by omega) (by omega)).mono ?_
  rintro e w5 ⟨r5, rfl, hr5, hb5⟩
  subst hr5
  have M5 : Hid _ := StMk.keep M4.out (agree hb5 (by omega))
  have C5 : Hid (w5.heap[w2.heap.size]? = some (.cells #[.slice a2 l.length 16, .int .i64 0, .slice none 0 0, .slice none 0 0, .int .i64 1] 28 (0, 0))) := (hb5.block _ (by omega)).trans C4.out
  have q5 : Hid (Below va.heap.size va w5) := q4.out.trans (hb5.mono (by omega))
  have z5 := hb5.size
  clear hb5 c4 C4 q4 M4
  go_wp2_with fail
  refine (impl_srv l HN.out _).mono ?_
  rintro e w6 ⟨a6, rfl, o6, hb6⟩
  have R6 : Hid (ChRow 0 w6.heap.size w6 a6 l) := ChRow.wide o6.row (Nat.zero_le _) (Nat.le_refl _)
  have M6 : Hid _ := StMk.keep M5.out (agree hb6 (by omega))
  have C6 : Hid (w6.heap[w2.heap.size]? = some (.cells #[.slice a2 l.length 16, .int .i64 0, .slice none 0 0, .slice none 0 0, .int .i64 1] 28 (0, 0))) := (hb6.block _ (by omega)).trans C5.out
  have q6 : Hid (Below va.heap.size va w6) := q5.out.trans (hb6.mono (by omega))
  have z6 := hb6.size
  clear o6 hb6 M5 C5 q5
  have c0 := (KA.out _ q6.out).2.1
  have y0 := fun o => (World.cell?_alloc_past (w := w6) o w1.heap.size 0 (by omega)).trans (row_cell c0 0)
  have y1 := fun o => (World.cell?_alloc_past (w := w6) o w1.heap.size 1 (by omega)).trans (row_cell c0 1)
  have y2 := fun o => (World.cell?_alloc_past (w := w6) o w1.heap.size 2 (by omega)).trans (row_cell c0 2)
  have y3 := fun o => (World.cell?_alloc_past (w := w6) o w1.heap.size 3 (by omega)).trans (row_cell c0 3)
  have y4 := fun o => (World.cell?_alloc_past (w := w6) o w1.heap.size 4 (by omega)).trans (row_cell c0 4)
  clear c0
  go_wp2_with fail
  clear y0 y1 y2 y3 y4
  obtain ⟨vc, hvc⟩ : ∃ W, W = w6.alloc (.cells #[.slice a6 l.length 16, .int .i64 0, .slice none 0 0, .slice none 0 0, .int .i64 1] 28) := ⟨_, rfl⟩
  rw [← hvc]
  have zc : vc.heap.size = w6.heap.size + 1 := by rw [hvc]; simp
  have bc : Below w6.heap.size w6 vc := by rw [hvc]; exact (Below.refl _ _).alloc (Nat.le_refl _) _
  have Cc : Hid (vc.heap[w6.heap.size]? = some (.cells #[.slice a6 l.length 16, .int .i64 0, .slice none 0 0, .slice none 0 0, .int .i64 1] 28 (0, 0))) := by rw [Hid, hvc]; exact heap_alloc_new _ _
  have Rc : Hid (ChRow 0 vc.heap.size vc a6 l) := ChRow.up R6.out bc
  have Mc : Hid _ := StMk.keep M6.out (agree bc (by omega))
  have Cg : Hid (vc.heap[w2.heap.size]? = some (.cells #[.slice a2 l.length 16, .int .i64 0, .slice none 0 0, .slice none 0 0, .int .i64 1] 28 (0, 0))) := (bc.block _ (by omega)).trans C6.out
  have qc : Hid (Below va.heap.size va vc) := q6.out.trans (bc.mono (by omega))
  clear hvc bc R6 M6 C6 q6
  refine (eq_srv a6 a1 none p1 none p2 l _ Rc.out (KA.out _ qc.out).1 HE.out).mono ?_
  rintro e w7 ⟨rfl, hb7⟩
  have M7 : Hid _ := StMk.keep Mc.out (agree hb7 (by omega))
  have C7 : Hid (w7.heap[w2.heap.size]? = some (.cells #[.slice a2 l.length 16, .int .i64 0, .slice none 0 0, .slice none 0 0, .int .i64 1] 28 (0, 0))) := (hb7.block _ (by omega)).trans Cg.out
  have q7 : Hid (Below va.heap.size va w7) := qc.out.trans (hb7.mono (by omega))
  have z7 := hb7.size
  clear hb7 Cc Rc Mc Cg qc
  have c7 := fun o => row_cell C7.out o
  go_wp2_with fail
  refine (held_srv a2 none none l _ _ 1 _ M7.out HE.out HZ.out (by omega) (by omega) (by omega)).mono ?_
  rintro e w8 ⟨r8, rfl, hr8, hb8⟩
  subst hr8
  have q8 : Hid (Below w.heap.size w w8) := (KA.out _ (q7.out.trans (hb8.mono (by omega)))).2.2
  clear hb8 c7
  go_wp2_with fail
  go_ret
  exact ⟨rfl, q8.out⟩

set_option maxRecDepth 100000 in
theorem lifted (os : Os) (started : os.Started) (H : Type) (enc : TypeId × Value → H) :
    ReturnsInHanded {} Try.checked os 3 .any (Rows.fnExactNewServerSpec.pre6 enc Try.prog Try.f3 Rows.fnExactNewServerRow.domain false) (Rows.fnExactNewServerSpec.post enc Try.prog Try.f3 false true false false) := by
  refine returnsInHanded_of_change (C := Try.checked) own started (by kernel_rfl) Try.func3
    (ChangeSpec.witness6 (enc := enc) (C := Try.checked) false ⟨#[], #[], []⟩ 8 (by kernel_rfl) (by kernel_rfl) (by kernel_rfl) (by kernel_rfl)) ?_
  intro W base args ds gs before hval0 hW hcnd _
  have hval : ∀ (j : Nat) t v, Try.f3.params[j]? = some t → args[j]? = some v → Value.okWide Try.prog W .any base t v := hval0
  have hW' := hW
  obtain ⟨p, q, hA0, hV, rfl, hfz, hnd⟩ := hW
  have hA : DataW.TrodAll enc Try.prog W 0 (fun _ => true) true Try.f3.params.toList args.toList ds p := hA0
  rw [Try.params3] at hA hval
  obtain ⟨hargs, rfl, rfl⟩ := trodAll_nil hA
  obtain rfl : args = #[] := by cases args; simp_all
  obtain ⟨rfl, rfl⟩ := trodVars_none hV
  clear hA0 hval0
  refine (walk W).mono fun e W' ⟨he, bel⟩ => ?_
  subst he
  exact ⟨_, rfl, _, _, _, [], _, [], hW', trodAll_mk1 (shut_bool Try.underlying4 _), trodAll_mk0, rfl, bel.frame _, fun h => by cases h⟩

theorem over : Rows.fnExactNewServerRow.holds Try.pinned (OpenSpec.ofChange Rows.fnExactNewServerSpec) :=
  OpenClaim.holds_of_wide 3 Try.f3 rfl rfl rfl rfl rfl rfl rfl ⟨rfl, rfl, rfl, rfl, rfl⟩ rfl rfl rfl rfl rfl (by kernel_rfl) Try.func3 (by kernel_rfl)
    (of_decide_eq_true (by kernel_rfl)) (by unfold Func.isWrapper; first | (rw [if_pos (by decide +kernel)]; kernel_rfl) | (rw [if_neg (by decide +kernel)]; exact ⟨rfl, rfl⟩))
    (fun os started H enc _ => lifted os started H enc)
end Go.Proofs.Ytepdgcbbnoiajaa.fnExactNewServer
namespace Go.Proofs.Ytepdgcbbnoiajaa
theorem newServer_holds : Rows.FnExactNewServerSaid := fnExactNewServer.over
#print axioms newServer_holds
end Go.Proofs.Ytepdgcbbnoiajaa
