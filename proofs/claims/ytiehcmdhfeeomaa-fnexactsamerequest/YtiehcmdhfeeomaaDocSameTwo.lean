/- The program's holding of selections against each other. -/
import Derived.Test.YtiehcmdhfeeomaaDocSame
namespace Go.Proofs.Ytiehcmdhfeeomaa
open Go.ChangeShapes Go.WideShapes Go.ChangeAt Go.RowKit
set_option linter.unusedVariables false

theorem Hd.eq {x y : Hd} (h1 : x.k = y.k) (h2 : x.al = y.al) (h3 : x.nm = y.nm) (h4 : x.args = y.args) (h5 : x.dirs = y.dirs) : x = y := by
  cases x; cases y; simp_all
def Same_set (l l' : Sels) : Prop := ∀ (a a' : Option Addr) (c c' : Nat) (w : World), SelRow 0 w.heap.size w a l → SelRow 0 w.heap.size w a' l' →
    Calls Try.prog 63 #[.slice a l.len c, .slice a' l'.len c'] w fun e w' => Says (l = l') e ∧ Below w.heap.size w w'

set_option maxHeartbeats 4000000 in
set_option maxRecDepth 40000 in
theorem same_sel (h h' : Hd) (sub sub' : Sels) (a1 a2 a3 b1 b2 b3 : Option Addr) (c1 c2 c3 e1 e2 e3 : Nat) (w : World) (r1 : ArRow 0 w.heap.size w a1 h.args) (r2 : DiRow 0 w.heap.size w a2 h.dirs) (r3 : SelRow 0 w.heap.size w a3 sub)
    (s1 : ArRow 0 w.heap.size w b1 h'.args) (s2 : DiRow 0 w.heap.size w b2 h'.dirs) (s3 : SelRow 0 w.heap.size w b3 sub') (g : HdGood h) (g' : HdGood h') (IS : Same_set sub sub') :
    Calls Try.prog 83 #[.agg #[.int .i64 h.k, .string h.al, .string h.nm, .slice a1 h.args.length c1, .slice a2 h.dirs.length c2, .slice a3 sub.len c3], .agg #[.int .i64 h'.k, .string h'.al, .string h'.nm, .slice b1 h'.args.length e1, .slice b2 h'.dirs.length e2, .slice b3 sub'.len e3]] w fun e w' =>
      Says (h = h' ∧ sub = sub') e ∧ Below w.heap.size w w' := by
  have IT : Hid (Same_set sub sub') := IS
  obtain ⟨W, hW⟩ : ∃ W, W = (w.alloc (.cells #[.int .i64 h.k, .string h.al, .string h.nm, .slice a1 h.args.length c1, .slice a2 h.dirs.length c2, .slice a3 sub.len c3] 108)).alloc (.cells #[.int .i64 h'.k, .string h'.al, .string h'.nm, .slice b1 h'.args.length e1, .slice b2 h'.dirs.length e2, .slice b3 sub'.len e3] 108) := ⟨_, rfl⟩
  have B0 : Below w.heap.size w W := by rw [hW]; exact ((Below.refl _ _).alloc (Nat.le_refl _) _).alloc (by simp) _
  have zW : W.heap.size = w.heap.size + 2 := by rw [hW]; simp
  have hx : W.heap[w.heap.size]? = some (.cells #[.int .i64 h.k, .string h.al, .string h.nm, .slice a1 h.args.length c1, .slice a2 h.dirs.length c2, .slice a3 sub.len c3] 108 (0, 0)) := by rw [hW]; exact (Below.heap_alloc _ _ _ (by simp)).trans (heap_alloc_new _ _)
  have hy : W.heap[w.heap.size + 1]? = some (.cells #[.int .i64 h'.k, .string h'.al, .string h'.nm, .slice b1 h'.args.length e1, .slice b2 h'.dirs.length e2, .slice b3 sub'.len e3] 108 (0, 0)) := by
    rw [hW]
    have := heap_alloc_new (w.alloc (.cells #[.int .i64 h.k, .string h.al, .string h.nm, .slice a1 h.args.length c1, .slice a2 h.dirs.length c2, .slice a3 sub.len c3] 108)) (.cells #[.int .i64 h'.k, .string h'.al, .string h'.nm, .slice b1 h'.args.length e1, .slice b2 h'.dirs.length e2, .slice b3 sub'.len e3] 108)
    simpa using this
  have HX : Hid (∀ W', Below W.heap.size W W' → (W'.cell? ⟨w.heap.size, 3, none⟩ = some (.slice a1 h.args.length c1) ∧ W'.cell? ⟨w.heap.size, 4, none⟩ = some (.slice a2 h.dirs.length c2) ∧ W'.cell? ⟨w.heap.size, 5, none⟩ = some (.slice a3 sub.len c3)) ∧ (W'.cell? ⟨w.heap.size + 1, 3, none⟩ = some (.slice b1 h'.args.length e1) ∧ W'.cell? ⟨w.heap.size + 1, 4, none⟩ = some (.slice b2 h'.dirs.length e2) ∧ W'.cell? ⟨w.heap.size + 1, 5, none⟩ = some (.slice b3 sub'.len e3)) ∧ Below w.heap.size w W') := fun W' hB => by
    have e := (hB.block w.heap.size (by omega)).trans hx
    have e' := (hB.block (w.heap.size + 1) (by omega)).trans hy
    exact ⟨⟨row_cell e 3, row_cell e 4, row_cell e 5⟩, ⟨row_cell e' 3, row_cell e' 4, row_cell e' 5⟩, B0.trans (hB.mono (by omega))⟩
  have K3 : Hid (∀ W0, Below w.heap.size w W0 → (ArRow 0 W0.heap.size W0 a1 h.args ∧ ArRow 0 W0.heap.size W0 b1 h'.args) ∧ (DiRow 0 W0.heap.size W0 a2 h.dirs ∧ DiRow 0 W0.heap.size W0 b2 h'.dirs) ∧ SelRow 0 W0.heap.size W0 a3 sub ∧ SelRow 0 W0.heap.size W0 b3 sub') := fun W0 hB => ⟨⟨Row.up r1 hB, Row.up s1 hB⟩, ⟨Row.up r2 hB, Row.up s2 hB⟩, SelRow.up r3 hB, SelRow.up s3 hB⟩
  have QB : Hid (Below w.heap.size w W) := B0
  have q1 := g.args
  have q2 := g.dirs
  have q3 := g'.args
  have q4 := g'.dirs
  clear r1 r2 r3 s1 s2 s3 IS B0 hx hy g g'
  cases t1 : (h.k == h'.k)
  · have HN : Hid (¬ (h = h' ∧ sub = sub')) := fun hh => by rw [hh.1] at t1; simp at t1
    go_enter Try.func83, Try.ntmps83
    go_wp2_with fail
    go_ret
    rw [← hW]
    exact ⟨Says.no HN.out, QB.out⟩
  cases t2 : (h.al.toList == h'.al.toList)
  · have HN : Hid (¬ (h = h' ∧ sub = sub')) := fun hh => by rw [hh.1] at t2; simp at t2
    go_enter Try.func83, Try.ntmps83
    go_wp2_with fail
    go_ret
    rw [← hW]
    exact ⟨Says.no HN.out, QB.out⟩
  cases t3 : (h.nm.toList == h'.nm.toList)
  · have HN : Hid (¬ (h = h' ∧ sub = sub')) := fun hh => by rw [hh.1] at t3; simp at t3
    go_enter Try.func83, Try.ntmps83
    go_wp2_with fail
    go_ret
    rw [← hW]
    exact ⟨Says.no HN.out, QB.out⟩
  have E1 : Hid (h.k = h'.k) := by unfold Hid; simpa using t1
  have E2 : Hid (h.al = h'.al) := str_eq t2
  have E3 : Hid (h.nm = h'.nm) := str_eq t3
  go_enter Try.func83, Try.ntmps83
  go_wp2_with fail
  rw [← hW]
  clear hW
  refine (same_ar a1 b1 c1 e1 h.args h'.args _ (K3.out _ QB.out).1.1 (K3.out _ QB.out).1.2 (by omega) (by omega)).mono ?_
  rintro e w1 ⟨⟨bb, rfl, ⟨rfl, hf⟩ | ⟨rfl, hf⟩⟩, hb1⟩
  case inr =>
    have HN : Hid (¬ (h = h' ∧ sub = sub')) := fun hh => hf (by rw [hh.1])
    have Q1 : Hid (Below w.heap.size w w1) := (HX.out _ hb1).2.2
    clear hb1 hf
    go_wp2_with fail
    go_ret
    exact ⟨Says.no HN.out, Q1.out⟩
  have E4 : Hid (h.args = h'.args) := hf
  have P1 : Hid (Below W.heap.size W w1) := hb1
  obtain ⟨⟨x3, x4, x5⟩, ⟨y3, y4, y5⟩, hQ1⟩ := HX.out _ hb1
  have Q1 : Hid (Below w.heap.size w w1) := hQ1
  clear hb1 hf hQ1
  go_wp2_with fail
  clear x3 x4 x5 y3 y4 y5
  refine (same_di a2 b2 c2 e2 h.dirs h'.dirs _ (K3.out _ Q1.out).2.1.1 (K3.out _ Q1.out).2.1.2 (by omega) (by omega)).mono ?_
  rintro e w2 ⟨⟨bb, rfl, ⟨rfl, hf⟩ | ⟨rfl, hf⟩⟩, hb2⟩
  case inr =>
    have HN : Hid (¬ (h = h' ∧ sub = sub')) := fun hh => hf (by rw [hh.1])
    have Q2 : Hid (Below w.heap.size w w2) := Q1.out.trans (hb2.mono Q1.out.size)
    clear hb2 hf
    go_wp2_with fail
    go_ret
    exact ⟨Says.no HN.out, Q2.out⟩
  have E5 : Hid (h.dirs = h'.dirs) := hf
  obtain ⟨⟨x3, x4, x5⟩, ⟨y3, y4, y5⟩, hQ2⟩ := HX.out _ (P1.out.trans (hb2.mono P1.out.size))
  have Q2 : Hid (Below w.heap.size w w2) := hQ2
  clear hb2 hf hQ2
  go_wp2_with fail
  clear x3 x4 x5 y3 y4 y5
  refine (IT.out a3 b3 c3 e3 _ (K3.out _ Q2.out).2.2.1 (K3.out _ Q2.out).2.2.2).mono ?_
  rintro e w3 ⟨⟨bb, rfl, ⟨rfl, hf⟩ | ⟨rfl, hf⟩⟩, hb3⟩
  · have HN : Hid (h = h' ∧ sub = sub') := ⟨Hd.eq E1.out E2.out E3.out E4.out E5.out, hf⟩
    have Q3 : Hid (Below w.heap.size w w3) := Q2.out.trans (hb3.mono Q2.out.size)
    clear hb3 hf
    go_wp2_with fail
    go_ret
    exact ⟨Says.yes HN.out, Q3.out⟩
  · have HN : Hid (¬ (h = h' ∧ sub = sub')) := fun hh => hf hh.2
    have Q3 : Hid (Below w.heap.size w w3) := Q2.out.trans (hb3.mono Q2.out.size)
    clear hb3 hf
    go_wp2_with fail
    go_ret
    exact ⟨Says.no HN.out, Q3.out⟩
end Go.Proofs.Ytiehcmdhfeeomaa
