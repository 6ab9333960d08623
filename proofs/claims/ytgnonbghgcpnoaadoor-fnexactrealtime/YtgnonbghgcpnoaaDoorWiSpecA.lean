/- The specification's order of two. -/
import Derived.Test.YtgnonbghgcpnoaaDoorWiImplTwo
import Derived.Test.YtgnonbghgcpnoaaDoorHiSpec
import Derived.BigQuiet
namespace Go.Proofs.YtgnonbghgcpnoaaDoor
open Go.ChangeShapes Go.WideShapes Go.ChangeAt Go.RowKit
set_option linter.unusedVariables false

set_option maxHeartbeats 4000000 in
set_option maxRecDepth 20000 in
theorem spec_less (a : Option Addr) (c : Nat) (l : List Dn) (x y : Nat) (w : World) (hr : DnRow 0 w.heap.size w a l) (hx : x < l.length) (hy : y < l.length) :
    Calls Tryd.prog 41 #[.slice a l.length c, .int .i64 x, .int .i64 y] w fun e w' => e = .returned (.bool (ltZ l x y)) ∧ ∃ m, w' = w.drewN m := by
  obtain ⟨g, o, a3, c3, b3, e3, ha, _, hbl, d0, d1, d2, d3x, d4, d5, d6, d7, r1, r2⟩ := DnRow.cells hr x hx
  obtain ⟨g', o', a3', c3', b3', e3', ha', _, hbl', f0, f1, f2, f3x, f4, f5, f6, f7, q1, q2⟩ := DnRow.cells hr y hy
  subst ha
  simp only [Option.some.injEq, Addr.mk.injEq, and_true] at ha'
  obtain ⟨rfl, rfl⟩ := ha'
  have HE : Hid (ltZ l x y = decide (l[x].ts < l[y].ts ∨ (l[x].ts = l[y].ts ∧ (rk l[x] < rk l[y] ∨ (rk l[x] = rk l[y] ∧ (x : Int) < y))))) := by
    rw [Hid, ltZ, gD_at hx, gD_at hy]
  obtain ⟨dx, hdx⟩ : ∃ u, u = l[x] := ⟨_, rfl⟩
  obtain ⟨dy, hdy⟩ : ∃ u, u = l[y] := ⟨_, rfl⟩
  rw [← hdx, ← hdy] at HE
  rw [← hdx] at d2 d4
  rw [← hdy] at f2 f4
  clear hdx hdy d0 d1 d3x d5 d6 d7 r1 r2 f0 f1 f3x f5 f6 f7 q1 q2 hr hbl hbl'
  have hx' : (x : Int) < (l.length : Int) := by omega
  have hy' : (y : Int) < (l.length : Int) := by omega
  clear hx hy
  go_enter Tryd.func41, Tryd.ntmps41
  by_cases h1 : dx.ts = dy.ts
  · have h1' : (dx.ts != dy.ts) = false := by simpa using h1
    rw [h1] at d2
    cases h2 : dx.wr <;> cases h3 : dy.wr <;> rw [h2] at d4 <;> rw [h3] at f4
    · have H : Hid (decide (x < y) = ltZ l x y) := by rw [Hid, HE.out, h1, rk, rk, h2, h3]; simp
      clear h2 h3 h1 h1' HE
      go_wp2_with fail
      go_quiet (fail)
      go_wp2_with fail
      go_quiet (fail)
      go_wp2_with fail
      go_ret
      exact ⟨ret_b H.out, _, rfl⟩
    · have H : Hid (false = ltZ l x y) := by rw [Hid, HE.out, h1, rk, rk, h2, h3]; simp
      clear h2 h3 h1 h1' HE
      go_wp2_with fail
      go_quiet (fail)
      go_wp2_with fail
      go_quiet (fail)
      go_wp2_with fail
      go_ret
      exact ⟨ret_b H.out, _, rfl⟩
    · have H : Hid (true = ltZ l x y) := by rw [Hid, HE.out, h1, rk, rk, h2, h3]; simp
      clear h2 h3 h1 h1' HE
      go_wp2_with fail
      go_quiet (fail)
      go_wp2_with fail
      go_quiet (fail)
      go_wp2_with fail
      go_ret
      exact ⟨ret_b H.out, _, rfl⟩
    · have H : Hid (decide (x < y) = ltZ l x y) := by rw [Hid, HE.out, h1, rk, rk, h2, h3]; simp
      clear h2 h3 h1 h1' HE
      go_wp2_with fail
      go_quiet (fail)
      go_wp2_with fail
      go_quiet (fail)
      go_wp2_with fail
      go_ret
      exact ⟨ret_b H.out, _, rfl⟩
  · have H : Hid (decide (dx.ts < dy.ts) = ltZ l x y) := by
      rw [Hid, HE.out]; by_cases h : dx.ts < dy.ts <;> simp [h, h1]
    have h1' : (dx.ts != dy.ts) = true := by simpa using h1
    clear HE
    go_wp2_with fail
    go_quiet (fail)
    go_wp2_with fail
    go_quiet (fail)
    go_wp2_with fail
    go_ret
    exact ⟨ret_b H.out, _, World.drewN_drewN _ _ _⟩
end Go.Proofs.YtgnonbghgcpnoaaDoor
