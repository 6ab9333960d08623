/- What is included: both sides. -/
import Derived.Test.YtdhgojeanebhoaaBnVal
import Derived.Test.YtdhgojeanebhoaaDocSpec
import Derived.Test.YtdhgojeanebhoaaDocAlone
import Derived.Deep.RegionWith
namespace Go.Proofs.Ytdhgojeanebhoaa
open Go.ChangeShapes Go.WideShapes Go.ChangeAt Go.RowKit
set_option linter.unusedVariables false

def trueB (v : Va) : Bool := (v.k == 2) && (v.n == 1)
def dinB (l : List Ar) (d : Di) : Bool := !(trueB (bval d.v l).1 == d.sk)
def inclB (ds : List Di) (l : List Ar) : Bool := ds.all (dinB l)
def boundB (ds : List Di) (l : List Ar) : Bool := ds.all fun d => (bval d.v l).2
theorem incl_no {ds : List Di} {l : List Ar} {k : Nat} (hk : k < ds.length) (h : dinB l ds[k] = false) : false = inclB ds l := by
  unfold inclB; rw [all_no_b hk h]
theorem bound_no {ds : List Di} {l : List Ar} {k : Nat} (hk : k < ds.length) (h : (bval ds[k].v l).2 = false) : boundB ds l = false := all_no_b hk h
/-- What Included tells. -/
def incl (h : Hd) (z : Bool) (l : List Ar) : Bool × Int :=
  if 4096 < l.length then (false, 2)
  else if !(hdB h z && bindB l) then (false, 1)
  else if !boundB h.dirs l then (false, 14) else (inclB h.dirs l, 0)

set_option maxHeartbeats 4000000 in
set_option maxRecDepth 40000 in
theorem spec_incl (h : Hd) (n : Nat) (a1 a2 a3 : Option Addr) (c1 c2 c3 : Nat) (a : Option Addr) (c : Nat) (l : List Ar) (w : World) (r2 : DiRow 0 w.heap.size w a2 h.dirs) (hr : ArRow 0 w.heap.size w a l) (hl : l.length ≤ 1048576) (hd : h.dirs.length ≤ 1048576) :
    Calls Try.prog 41 #[.agg #[.int .i64 h.k, .string h.al, .string h.nm, .slice a1 h.args.length c1, .slice a2 h.dirs.length c2, .slice a3 n c3], .slice a l.length c] w fun e w' => e = .returned (.bool (inclB h.dirs l)) ∧ Below w.heap.size w w' := by
  have HR : Hid (∀ W0, Below w.heap.size w W0 → ArRow 0 W0.heap.size W0 a l) := fun W0 hB => Row.up hr hB
  have HD : Hid (DiRow 0 w.heap.size w a2 h.dirs) := r2
  clear hr r2
  go_enter Try.func41, Try.ntmps41
  go_wp2_with fail
  obtain ⟨W, hW⟩ : ∃ W, W = w.alloc (.cells #[.int .i64 h.k, .string h.al, .string h.nm, .slice a1 h.args.length c1, .slice a2 h.dirs.length c2, .slice a3 n c3] 50) := ⟨_, rfl⟩
  rw [← hW]
  have zW : W.heap.size = w.heap.size + 1 := by rw [hW]; simp
  have B0 : Hid (Below w.heap.size w W) := by rw [hW]; exact (Below.refl _ _).alloc (Nat.le_refl _) _
  have A0 : Hid (W.heap[w.heap.size]? = some (.cells #[.int .i64 h.k, .string h.al, .string h.nm, .slice a1 h.args.length c1, .slice a2 h.dirs.length c2, .slice a3 n c3] 50 (0, 0))) := by rw [Hid, hW]; exact heap_alloc_new _ _
  clear hW
  go_loopw [5] (fun i w' => ∃ (k : Nat), k ≤ h.dirs.length ∧ i = .int .i64 k ∧ Below W.heap.size W w' ∧ Hid ((h.dirs.take k).all (dinB l) = true)) (fun i _ => h.dirs.length - (intOf i).toNat)
  case atStart => exact ⟨0, by omega, rfl, Below.refl _ _, rfl⟩
  case round =>
    obtain ⟨k, hk, rfl, hb, HK⟩ := hrel
    have HBR : Hid _ := hb
    have QR : Hid (Below w.heap.size w wr) := B0.out.trans (hb.mono (by omega))
    have zr := hb.size
    have r0 : wr.heap[w.heap.size]? = _ := (hb.block w.heap.size (by omega)).trans A0.out
    have q0 := fun o => row_cell r0 o
    clear hb r0
    by_cases hlt : k < h.dirs.length
    case neg =>
      have HN : Hid (true = inclB h.dirs l) := by have := HK.out; rw [List.take_of_length_le (by omega)] at this; exact this.symm
      go_wp2_with fail
      go_ret
      exact ⟨ret_bool HN.out, QR.out⟩
    obtain ⟨b5, o5, ha, _, hbl, d0, d1, d2, d3⟩ := (HD.out.keep (Below.agree QR.out (Nat.le_refl _))).cells_di k hlt
    subst ha
    obtain ⟨u, b', hu⟩ : ∃ u b', bval h.dirs[k].v l = (u, b') := ⟨_, _, rfl⟩
    have HU : Hid (bval h.dirs[k].v l = (u, b')) := hu
    have HT : Hid (dinB l h.dirs[k] = !(((u.k == 2) && (u.n == 1)) == h.dirs[k].sk)) := by unfold Hid dinB; rw [hu]; rfl
    clear hu
    go_wp2_with fail
    refine (spec_value h.dirs[k].v a c l u b' _ (HR.out _ QR.out) hl HU.out).mono ?_
    rintro e w1 ⟨rfl, hb1⟩
    have z1 := hb1.size
    have q1 := fun o => (hb1.cell (p := ⟨w.heap.size, o, none⟩) (show w.heap.size < wr.heap.size by omega)).trans (q0 o)
    have e1 := (hb1.cell (p := ⟨b5, o5 + k * 4, none⟩) (show b5 < wr.heap.size by omega)).trans d0
    have p1 := fun ob o => (((Below.refl w1.heap.size w1).alloc (Nat.le_refl _) ob).cell (p := ⟨w.heap.size, o, none⟩) (show w.heap.size < w1.heap.size by omega)).trans (q1 o)
    have pe := fun ob => (((Below.refl w1.heap.size w1).alloc (Nat.le_refl _) ob).cell (p := ⟨b5, o5 + k * 4, none⟩) (show b5 < w1.heap.size by omega)).trans e1
    have B1 : Hid (Below W.heap.size W w1) := HBR.out.trans (hb1.mono (by omega))
    have Q1 : Hid (Below w.heap.size w w1) := QR.out.trans (hb1.mono (by omega))
    clear hb1 q0 d0 d1 d2 d3 q1 e1
    cases h1 : (u.k == 2) <;> cases h2 : (u.n == 1) <;> cases h3 : h.dirs[k].sk
    all_goals
      rw [h3] at pe
      go_wp2_with fail
      first
      | (exact ⟨⟨k + 1, by omega, by go_num, B1.out.alloc (by omega) _, all_takeB hlt HK.out (by rw [HT.out, h1, h2, h3]; rfl)⟩, by simp [intOf]; omega⟩)
      | (go_ret; exact ⟨ret_bool (incl_no hlt (by rw [HT.out, h1, h2, h3]; rfl)), Q1.out.alloc (by omega) _⟩)

set_option maxHeartbeats 1000000 in
theorem impl_true (v : Va) (w : World) : Calls Try.prog 73 #[.agg #[.int .i64 v.k, .int .i64 v.n, .string v.t]] w fun e w' => e = .returned (.bool (trueB v)) ∧ Below w.heap.size w w' := by
  cases h1 : (v.k == 2) <;> cases h2 : (v.n == 1)
  all_goals
    go_enter Try.func73, Try.ntmps73
    go_wp2_with fail
    go_ret
    exact ⟨ret_bool (by unfold trueB; rw [h1, h2]; rfl), (Below.refl _ _).alloc (Nat.le_refl _) _⟩

set_option maxHeartbeats 4000000 in
set_option maxRecDepth 40000 in
theorem impl_incl (h : Hd) (n : Nat) (a1 a2 a3 : Option Addr) (c1 c2 c3 : Nat) (a : Option Addr) (c : Nat) (l : List Ar) (w : World) (r2 : DiRow 0 w.heap.size w a2 h.dirs) (hr : ArRow 0 w.heap.size w a l) (hl : l.length ≤ 1048576) (hd : h.dirs.length ≤ 1048576) :
    Calls Try.prog 46 #[.agg #[.int .i64 h.k, .string h.al, .string h.nm, .slice a1 h.args.length c1, .slice a2 h.dirs.length c2, .slice a3 n c3], .slice a l.length c] w fun e w' => e = .returned (.bool (inclB h.dirs l)) ∧ Below w.heap.size w w' := by
  have HR : Hid (∀ W0, Below w.heap.size w W0 → ArRow 0 W0.heap.size W0 a l) := fun W0 hB => Row.up hr hB
  have HD : Hid (DiRow 0 w.heap.size w a2 h.dirs) := r2
  clear hr r2
  go_enter Try.func46, Try.ntmps46
  go_wp2_with fail
  have B0 : Hid (Below w.heap.size w (w.alloc (.cells #[.int .i64 h.k, .string h.al, .string h.nm, .slice a1 h.args.length c1, .slice a2 h.dirs.length c2, .slice a3 n c3] 50))) := (Below.refl _ _).alloc (Nat.le_refl _) _
  go_loopw [12] (fun i w' => ∃ (k : Nat), k ≤ h.dirs.length ∧ i = .int .i64 k ∧ Below w.heap.size w w' ∧ Hid ((h.dirs.take k).all (dinB l) = true)) (fun i _ => h.dirs.length - (intOf i).toNat)
  case atStart => exact ⟨0, by omega, rfl, B0.out, rfl⟩
  case round =>
    obtain ⟨k, hk, rfl, hb, HK⟩ := hrel
    have QR : Hid (Below w.heap.size w wr) := hb
    have zr := hb.size
    clear hb
    by_cases hlt : k < h.dirs.length
    case neg =>
      have HN : Hid (true = inclB h.dirs l) := by have := HK.out; rw [List.take_of_length_le (by omega)] at this; exact this.symm
      go_wp2_with fail
      go_ret
      exact ⟨ret_bool HN.out, QR.out⟩
    obtain ⟨b5, o5, ha, _, hbl, d0, d1, d2, d3⟩ := (HD.out.keep (Below.agree QR.out (Nat.le_refl _))).cells_di k hlt
    subst ha
    obtain ⟨u, b', hu⟩ : ∃ u b', bval h.dirs[k].v l = (u, b') := ⟨_, _, rfl⟩
    have HU : Hid (bval h.dirs[k].v l = (u, b')) := hu
    have HT : Hid (dinB l h.dirs[k] = !(trueB u == h.dirs[k].sk)) := by unfold Hid dinB; rw [hu]
    clear hu
    go_wp2_with fail
    refine (impl_bound h.dirs[k].v a c l u b' _ (HR.out _ ?b0) hl HU.out).mono ?_
    case b0 => exact QR.out.alloc (by omega) _
    rintro e w1 ⟨rfl, hb1⟩
    have z1 : wr.heap.size + 1 ≤ w1.heap.size := by have := hb1.size; simpa using this
    have e1 : w1.cell? ⟨wr.heap.size, 0, none⟩ = some (.bool h.dirs[k].sk) := (hb1.cell (p := ⟨wr.heap.size, 0, none⟩) (by simp)).trans (row_cell (heap_alloc_new _ _) 0)
    have Q1 : Hid (Below w.heap.size w w1) := (QR.out.alloc (by omega) _).trans (hb1.mono (by simp <;> omega))
    clear hb1 d0 d1 d2 d3
    go_wp2_with fail
    obtain ⟨V, hV⟩ : ∃ V, V = w1.alloc (.cells #[.int .i64 u.k, .int .i64 u.n, .string u.t] 32) := ⟨_, rfl⟩
    rw [← hV]
    have zV : V.heap.size = w1.heap.size + 1 := by rw [hV]; simp
    have BV : Hid (Below w1.heap.size w1 V) := by rw [hV]; exact (Below.refl _ _).alloc (Nat.le_refl _) _
    have HV : V.heap[w1.heap.size]? = some (.cells #[.int .i64 u.k, .int .i64 u.n, .string u.t] 32 (0, 0)) := by rw [hV]; exact heap_alloc_new _ _
    have v1 := fun o => row_cell HV o
    have e2 := (BV.out.cell (p := ⟨wr.heap.size, 0, none⟩) (show wr.heap.size < w1.heap.size by omega)).trans e1
    have QV : Hid (Below w.heap.size w V) := Q1.out.trans (BV.out.mono (by omega))
    clear hV HV e1
    cases h1 : trueB u <;> cases h3 : h.dirs[k].sk
    all_goals
      rw [h3] at e2
      go_region_with (go_at_call 73; refine (impl_true u _).mono ?_; rw [h1]; rintro e w2 ⟨rfl, hb2⟩; have e3 := (hb2.cell (p := ⟨wr.heap.size, 0, none⟩) (show wr.heap.size < V.heap.size by omega)).trans e2)
    all_goals
      have q2 : Hid (Below w.heap.size w w2) := QV.out.trans (Below.trans (by exact ⟨rfl, rfl, rfl, Nat.le_refl _, fun _ _ => rfl⟩) (hb2.mono (by first | omega | (simp <;> omega))))
      go_wp2_with fail
      first
      | (exact ⟨⟨k + 1, by omega, by go_num, q2.out, all_takeB hlt HK.out (by rw [HT.out, h1, h3]; rfl)⟩, by simp [intOf]; omega⟩)
      | (go_ret; exact ⟨ret_bool (incl_no hlt (by rw [HT.out, h1, h3]; rfl)), q2.out⟩)
end Go.Proofs.Ytdhgojeanebhoaa
