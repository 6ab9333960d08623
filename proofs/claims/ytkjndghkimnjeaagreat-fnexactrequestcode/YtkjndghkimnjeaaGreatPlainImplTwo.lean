/- The program's plain schema: three lists of fields, made in whatever order Go leaves open. -/
import Derived.Test.YtkjndghkimnjeaaGreatPlainSpec
import Derived.Test.YtkjndghkimnjeaaGreatGRegionFive
namespace Go.Proofs.YtkjndghkimnjeaaGreat.G
open Go.ChangeShapes Go.WideShapes Go.ChangeAt Go.RowKit
set_option linter.unusedVariables false

/-- The block that a slice, or a field's arguments, lie in. -/
def adr : Value → Option Nat
  | .slice (some a) _ _ => some a.block
  | .agg cs => match cs[1]? with
    | some (Value.slice (some a) _ _) => some a.block
    | _ => none
  | _ => none
/-- Slots of different groups have different blocks. -/
def JG (grp : Nat → Nat) (u : Nat → Value) (w : World) : Prop :=
  (∀ s, grp s ≠ 0 → ∀ b, adr (u s) = some b → b < w.heap.size) ∧ ∀ s s', grp s ≠ 0 → grp s' ≠ 0 → grp s ≠ grp s' → ∀ b, adr (u s) = some b → adr (u s') = some b → False
theorem JG.start (grp : Nat → Nat) (u : Nat → Value) (w : World) (h : ∀ s, grp s ≠ 0 → adr (u s) = none) : JG grp u w :=
  ⟨fun s hs b hb => (by rw [h s hs] at hb; cases hb), fun s s' hs _ _ b hb _ => (by rw [h s hs] at hb; cases hb)⟩
theorem JG.other {grp : Nat → Nat} {u : Nat → Value} {w w' : World} (h : JG grp u w) {d : Nat} (hd : grp d = 0) (v : Value) (hw : w.heap.size ≤ w'.heap.size) : JG grp (upd u d v) w' := by
  have e : ∀ s, grp s ≠ 0 → upd u d v s = u s := fun s hs => upd_ne _ _ (fun hx => hs (hx ▸ hd))
  refine ⟨fun s hs b hb => ?_, fun s s' hs hs' hne b hb hb' => ?_⟩
  · rw [e s hs] at hb
    have := h.1 s hs b hb
    omega
  · rw [e s hs] at hb
    rw [e s' hs'] at hb'
    exact h.2 s s' hs hs' hne b hb hb'
theorem JG.fresh {grp : Nat → Nat} {u : Nat → Value} {w w' : World} (h : JG grp u w) {d : Nat} {v : Value} {b0 : Nat} (hv : adr v = some b0) (h1 : w.heap.size ≤ b0) (h2 : b0 < w'.heap.size) (hw : w.heap.size ≤ w'.heap.size) : JG grp (upd u d v) w' := by
  refine ⟨fun s hs b hb => ?_, fun s s' hs hs' hne b hb hb' => ?_⟩
  · by_cases hsd : s = d
    · subst hsd
      rw [upd_at, hv, Option.some.injEq] at hb
      omega
    · rw [upd_ne _ _ hsd] at hb
      have := h.1 s hs b hb
      omega
  · by_cases hsd : s = d <;> by_cases hsd' : s' = d
    · exact hne (by rw [hsd, hsd'])
    · rw [hsd, upd_at, hv, Option.some.injEq] at hb
      rw [upd_ne _ _ hsd'] at hb'
      have := h.1 s' hs' b hb'
      omega
    · rw [hsd', upd_at, hv, Option.some.injEq] at hb'
      rw [upd_ne _ _ hsd] at hb
      have := h.1 s hs b hb
      omega
    · rw [upd_ne _ _ hsd] at hb
      rw [upd_ne _ _ hsd'] at hb'
      exact h.2 s s' hs hs' hne b hb hb'
theorem JG.same {grp : Nat → Nat} {u : Nat → Value} {w w' : World} (h : JG grp u w) {d s0 : Nat} {v : Value} (hv : adr v = adr (u s0)) (hg : grp s0 = grp d) (hw : w.heap.size ≤ w'.heap.size) : JG grp (upd u d v) w' := by
  refine ⟨fun s hs b hb => ?_, fun s s' hs hs' hne b hb hb' => ?_⟩
  · by_cases hsd : s = d
    · subst hsd
      rw [upd_at, hv] at hb
      have := h.1 s0 (by rw [hg]; exact hs) b hb
      omega
    · rw [upd_ne _ _ hsd] at hb
      have := h.1 s hs b hb
      omega
  · by_cases hsd : s = d <;> by_cases hsd' : s' = d
    · exact hne (by rw [hsd, hsd'])
    · rw [hsd, upd_at, hv] at hb
      rw [upd_ne _ _ hsd'] at hb'
      exact h.2 s0 s' (by rw [hg, ← hsd]; exact hs) hs' (by rw [hg, ← hsd]; exact hne) b hb hb'
    · rw [hsd', upd_at, hv] at hb'
      rw [upd_ne _ _ hsd] at hb
      exact h.2 s s0 hs (by rw [hg, ← hsd']; exact hs') (by rw [hg, ← hsd']; exact hne) b hb hb'
    · rw [upd_ne _ _ hsd] at hb
      rw [upd_ne _ _ hsd'] at hb'
      exact h.2 s s' hs hs' hne b hb hb'

/-- Arguments in a block made since. -/
def ArN (S : Nat) (w : World) (v : Value) (l : List Ag) : Prop := ∃ b, v = .slice (some ⟨b, 0, none⟩) l.length l.length ∧ S ≤ b ∧ w.heap[b]? = some (.cells (agv l).toArray 87 (0, 0))
theorem ArN.up {S : Nat} {w w' : World} {v : Value} {l : List Ag} (h : ArN S w v l) (hb : Below w.heap.size w w') : ArN S w' v l := by
  obtain ⟨b, h1, h2, h3⟩ := h
  exact ⟨b, h1, h2, (hb.block b (Array.getElem?_eq_some_iff.1 h3).1).trans h3⟩
def FdN (S : Nat) (w : World) (v : Value) (x : Fd) : Prop := ∃ b, v = .agg #[.string x.nm, .slice (some ⟨b, 0, none⟩) x.args.length x.args.length, .string x.ty, .bool x.ls, .bool x.bg] ∧ S ≤ b ∧ w.heap[b]? = some (.cells (agv x.args).toArray 87 (0, 0))
theorem FdN.up {S : Nat} {w w' : World} {v : Value} {x : Fd} (h : FdN S w v x) (hb : Below w.heap.size w w') : FdN S w' v x := by
  obtain ⟨b, h1, h2, h3⟩ := h
  exact ⟨b, h1, h2, (hb.block b (Array.getElem?_eq_some_iff.1 h3).1).trans h3⟩
def FdZ (v : Value) (x : Fd) : Prop := v = .agg #[.string x.nm, .slice none 0 0, .string x.ty, .bool x.ls, .bool x.bg]
/-- Fields in memory made since, none of whose blocks is a type's. -/
def FsS (S : Nat) (w : World) (v : Value) (fs : List Fd) : Prop := ∃ F bs, v = .slice (some ⟨F, 0, none⟩) fs.length fs.length ∧ FdOwn w (some ⟨F, 0, none⟩) fs bs ∧ bs.Nodup ∧ ∀ k ∈ bs, S ≤ k ∧ ∃ cs T, w.heap[k]? = some (.cells cs T (0, 0)) ∧ T ≠ 93
theorem FsS.up {S : Nat} {w w' : World} {v : Value} {fs : List Fd} (h : FsS S w v fs) (hb : Below w.heap.size w w') : FsS S w' v fs := by
  obtain ⟨F, bs, h1, h2, h3, h4⟩ := h
  have e : ∀ g ∈ bs, w'.heap[g]? = w.heap[g]? := fun g hg => hb.block g (by obtain ⟨_, cs, T, hk, _⟩ := h4 g hg; exact (Array.getElem?_eq_some_iff.1 hk).1)
  refine ⟨F, bs, h1, FdOwn.same h2 e, h3, fun k hk => ?_⟩
  obtain ⟨q, cs, T, h5, h6⟩ := h4 k hk
  exact ⟨q, cs, T, (e k hk).trans h5, h6⟩
def TyS (S : Nat) (w : World) (v : Value) (n : ByteArray) (fs : List Fd) : Prop := ∃ p, v = .agg #[.string n, p] ∧ FsS S w p fs
theorem TyS.up {S : Nat} {w w' : World} {v : Value} {n : ByteArray} {fs : List Fd} (h : TyS S w v n fs) (hb : Below w.heap.size w w') : TyS S w' v n fs := by
  obtain ⟨p, h1, h2⟩ := h
  exact ⟨p, h1, h2.up hb⟩
/-- A type's variable, not yet written. -/
def VaS (S : Nat) (w : World) (v : Value) : Prop := ∃ g, v = .pointer (some ⟨g, 0, none⟩) ∧ S ≤ g ∧ w.heap[g]? = some (.cells #[.string ⟨#[]⟩, .slice none 0 0] 93 (0, 0))
theorem VaS.up {S : Nat} {w w' : World} {v : Value} (h : VaS S w v) (hb : Below w.heap.size w w') : VaS S w' v := by
  obtain ⟨g, h1, h2, h3⟩ := h
  exact ⟨g, h1, h2, (hb.block g (Array.getElem?_eq_some_iff.1 h3).1).trans h3⟩
/-- A type in a variable's block, its fields in memory made since. -/
def Made (lo : Nat) (w : World) (u : Value) (n : ByteArray) (fs : List Fd) : Prop := ∃ g a c, u = .pointer (some ⟨g, 0, none⟩) ∧ lo ≤ g ∧ w.heap[g]? = some (.cells #[.string n, .slice a fs.length c] 93 (0, 0)) ∧ FdMine lo w.heap.size w a fs
def flat (x : Fd) : Fd := ⟨x.nm, x.args, x.ty, false, false⟩
def fq0 : Fd := ⟨⟨#[110, 111, 100, 101]⟩, [⟨sId, true⟩], sNodeT, false, false⟩
def fq1 : Fd := ⟨⟨#[109, 117, 115, 116]⟩, [⟨sId, true⟩], sNodeT, false, true⟩
def fq2 : Fd := ⟨⟨#[110, 111, 100, 101, 115]⟩, [], sNodeT, true, false⟩
def fq3 : Fd := ⟨⟨#[115, 105, 122, 101]⟩, [], sInt, false, true⟩
def fm0 : Fd := ⟨⟨#[115, 101, 116]⟩, [⟨sId, true⟩, ⟨sValue, true⟩], sNodeT, false, false⟩
def fm1 : Fd := ⟨⟨#[97, 100, 100]⟩, [⟨sId, true⟩, ⟨sBy, true⟩], sNodeT, false, false⟩
def fm2 : Fd := ⟨⟨#[108, 105, 110, 107]⟩, [⟨sId, true⟩, ⟨sTo, false⟩], sNodeT, false, false⟩
def fn0 : Fd := ⟨sId, [], sInt, false, true⟩
def fn1 : Fd := ⟨sValue, [], sInt, false, false⟩
def fn2 : Fd := ⟨⟨#[112, 108, 117, 115]⟩, [⟨sBy, true⟩], sInt, false, false⟩
def fn3 : Fd := ⟨⟨#[110, 101, 120, 116]⟩, [], sNodeT, false, false⟩
def fn4 : Fd := ⟨⟨#[110, 101, 101, 100]⟩, [], sNodeT, false, true⟩
def P2 (S : Nat) (i : Nat) (v : Value) (w : World) : Prop := match i with
  | 0 => v = .agg #[.string ⟨#[105, 100]⟩, .bool true]
  | 1 => ArN S w v [⟨sId, true⟩]
  | 2 => FdN S w v fq0
  | 3 => v = .agg #[.string ⟨#[105, 100]⟩, .bool true]
  | 4 => ArN S w v [⟨sId, true⟩]
  | 5 => FdN S w v (flat fq1)
  | 6 => FdN S w v fq1
  | 7 => FdZ v (flat fq2)
  | 8 => FdZ v fq2
  | 9 => FdZ v (flat fq3)
  | 10 => FdZ v fq3
  | 11 => FsS S w v qFs
  | 12 => TyS S w v sQuery qFs
  | 13 => VaS S w v
  | _ => True
theorem P2.up (S : Nat) (i : Nat) (v : Value) (w w' : World) (h : P2 S i v w) (hb : Below w.heap.size w w') : P2 S i v w' := by
  unfold P2 at h ⊢
  split at h <;> first | exact h | exact ArN.up h hb | exact FdN.up h hb | exact FsS.up h hb | exact TyS.up h hb | exact VaS.up h hb
def dst2 (i : Nat) : Nat := if i = 13 then 4 else i + 10
theorem dst2_one (i j : Nat) (hi : i < 14) (hj : j < 14) (h : dst2 i = dst2 j) : i = j := by
  unfold dst2 at h
  split at h <;> split at h <;> omega
def grp2 (s : Nat) : Nat := if s = 11 then 1 else if s = 12 then 1 else if s = 14 then 2 else if s = 15 then 2 else if s = 16 then 2 else 0
def P3 (S : Nat) (i : Nat) (v : Value) (w : World) : Prop := match i with
  | 0 => v = .agg #[.string ⟨#[105, 100]⟩, .bool true]
  | 1 => v = .agg #[.string ⟨#[118, 97, 108, 117, 101]⟩, .bool true]
  | 2 => ArN S w v [⟨sId, true⟩, ⟨sValue, true⟩]
  | 3 => FdN S w v fm0
  | 4 => v = .agg #[.string ⟨#[105, 100]⟩, .bool true]
  | 5 => v = .agg #[.string ⟨#[98, 121]⟩, .bool true]
  | 6 => ArN S w v [⟨sId, true⟩, ⟨sBy, true⟩]
  | 7 => FdN S w v fm1
  | 8 => v = .agg #[.string ⟨#[105, 100]⟩, .bool true]
  | 9 => v = .agg #[.string ⟨#[116, 111]⟩, .bool false]
  | 10 => ArN S w v [⟨sId, true⟩, ⟨sTo, false⟩]
  | 11 => FdN S w v fm2
  | 12 => FsS S w v mFs
  | 13 => TyS S w v sMut mFs
  | 14 => VaS S w v
  | _ => True
theorem P3.up (S : Nat) (i : Nat) (v : Value) (w w' : World) (h : P3 S i v w) (hb : Below w.heap.size w w') : P3 S i v w' := by
  unfold P3 at h ⊢
  split at h <;> first | exact h | exact ArN.up h hb | exact FdN.up h hb | exact FsS.up h hb | exact TyS.up h hb | exact VaS.up h hb
def dst3 (i : Nat) : Nat := if i = 14 then 5 else i + 23
theorem dst3_one (i j : Nat) (hi : i < 15) (hj : j < 15) (h : dst3 i = dst3 j) : i = j := by
  unfold dst3 at h
  split at h <;> split at h <;> omega
def grp3 (s : Nat) : Nat := if s = 25 then 1 else if s = 26 then 1 else if s = 29 then 2 else if s = 30 then 2 else if s = 33 then 3 else if s = 34 then 3 else 0
def P4 (S : Nat) (i : Nat) (v : Value) (w : World) : Prop := match i with
  | 0 => FdZ v (flat fn0)
  | 1 => FdZ v fn0
  | 2 => FdZ v fn1
  | 3 => v = .agg #[.string ⟨#[98, 121]⟩, .bool true]
  | 4 => ArN S w v [⟨sBy, true⟩]
  | 5 => FdN S w v fn2
  | 6 => FdZ v fn3
  | 7 => FdZ v (flat fn4)
  | 8 => FdZ v fn4
  | 9 => FsS S w v nFs
  | 10 => TyS S w v sNodeT nFs
  | 11 => VaS S w v
  | _ => True
theorem P4.up (S : Nat) (i : Nat) (v : Value) (w w' : World) (h : P4 S i v w) (hb : Below w.heap.size w w') : P4 S i v w' := by
  unfold P4 at h ⊢
  split at h <;> first | exact h | exact ArN.up h hb | exact FdN.up h hb | exact FsS.up h hb | exact TyS.up h hb | exact VaS.up h hb
def dst4 (i : Nat) : Nat := if i = 11 then 6 else i + 37
theorem dst4_one (i j : Nat) (hi : i < 12) (hj : j < 12) (h : dst4 i = dst4 j) : i = j := by
  unfold dst4 at h
  split at h <;> split at h <;> omega
def grp4 (s : Nat) : Nat := if s = 41 then 1 else if s = 42 then 1 else 0

set_option maxHeartbeats 4000000 in
set_option maxRecDepth 40000 in
theorem impl_plain (w : World) :
    Calls Tryz.prog 31 #[] w fun e w' => ∃ a c, e = .returned (.agg #[.slice a 3 c]) ∧ TdMine w.heap.size w'.heap.size w' a PL ∧ Below w.heap.size w w' := by
  go_enter Tryz.func31, Tryz.ntmps31
  go_wp2_with fail
  refine (needed_any _ _).mono ?_
  rintro e w1 ⟨rfl, rfl⟩
  go_wp2_with fail
  refine (needed_any _ _).mono ?_
  rintro e w1 ⟨rfl, rfl⟩
  go_wp2_with fail
  refine (needed_any _ _).mono ?_
  rintro e w1 ⟨rfl, rfl⟩
  go_wp2_with fail
  obtain ⟨W0, hW0⟩ : ∃ W : World, W = (((((((w.alloc (.cells #[.slice none 0 0] 59)).alloc (.cells #[.string ⟨#[105, 100]⟩, .bool true] 87)).alloc (.cells #[.string ⟨#[118, 97, 108, 117, 101]⟩, .bool true] 87)).alloc (.cells #[.string ⟨#[98, 121]⟩, .bool true] 87)).alloc (.cells #[.string ⟨#[105, 100]⟩, .bool true] 87)).alloc (.cells #[.string ⟨#[118, 97, 108, 117, 101]⟩, .bool true] 87)).alloc (.cells #[.string ⟨#[98, 121]⟩, .bool true] 87)) := ⟨_, rfl⟩
  rw [← hW0]
  have z0 : W0.heap.size = w.heap.size + 7 := by rw [hW0]; simp
  have i0 : W0.cell? ⟨w.heap.size + 4, 0, none⟩ = some (.string ⟨#[105, 100]⟩) := by rw [hW0]; simp [go_sem]
  have i1 : W0.cell? ⟨w.heap.size + 4, 1, none⟩ = some (.bool true) := by rw [hW0]; simp [go_sem]
  have v0 : W0.cell? ⟨w.heap.size + 5, 0, none⟩ = some (.string ⟨#[118, 97, 108, 117, 101]⟩) := by rw [hW0]; simp [go_sem]
  have v1 : W0.cell? ⟨w.heap.size + 5, 1, none⟩ = some (.bool true) := by rw [hW0]; simp [go_sem]
  have b0 : W0.cell? ⟨w.heap.size + 6, 0, none⟩ = some (.string ⟨#[98, 121]⟩) := by rw [hW0]; simp [go_sem]
  have b1 : W0.cell? ⟨w.heap.size + 6, 1, none⟩ = some (.bool true) := by rw [hW0]; simp [go_sem]
  have BW : Hid (Below w.heap.size w W0) := by
    rw [hW0]; unfold Hid
    repeat (first | exact Below.refl _ _ | refine Below.alloc ?_ (by first | omega | (simp <;> omega)) _)
  have HR : Hid (W0.heap[w.heap.size]? = some (.cells #[.slice none 0 0] 59 (0, 0))) := by
    rw [hW0]; unfold Hid
    iterate 6 refine (Below.heap_alloc _ _ _ (by simp <;> omega)).trans ?_
    exact heap_alloc_new _ _
  clear hW0
  have KS : Hid (∀ w', Below W0.heap.size W0 w' → w'.cell? ⟨w.heap.size + 4, 0, none⟩ = some (.string ⟨#[105, 100]⟩) ∧ w'.cell? ⟨w.heap.size + 4, 1, none⟩ = some (.bool true) ∧ w'.cell? ⟨w.heap.size + 5, 0, none⟩ = some (.string ⟨#[118, 97, 108, 117, 101]⟩) ∧ w'.cell? ⟨w.heap.size + 5, 1, none⟩ = some (.bool true) ∧ w'.cell? ⟨w.heap.size + 6, 0, none⟩ = some (.string ⟨#[98, 121]⟩) ∧ w'.cell? ⟨w.heap.size + 6, 1, none⟩ = some (.bool true)) := fun w' h =>
    ⟨(h.cell (p := ⟨w.heap.size + 4, 0, none⟩) (show w.heap.size + 4 < W0.heap.size by omega)).trans i0, (h.cell (p := ⟨w.heap.size + 4, 1, none⟩) (show w.heap.size + 4 < W0.heap.size by omega)).trans i1, (h.cell (p := ⟨w.heap.size + 5, 0, none⟩) (show w.heap.size + 5 < W0.heap.size by omega)).trans v0, (h.cell (p := ⟨w.heap.size + 5, 1, none⟩) (show w.heap.size + 5 < W0.heap.size by omega)).trans v1, (h.cell (p := ⟨w.heap.size + 6, 0, none⟩) (show w.heap.size + 6 < W0.heap.size by omega)).trans b0, (h.cell (p := ⟨w.heap.size + 6, 1, none⟩) (show w.heap.size + 6 < W0.heap.size by omega)).trans b1⟩
  clear i0 i1 v0 v1 b0 b1
  go_cut [4] from 10 to 22 (fun u wx => Made W0.heap.size wx u sQuery qFs ∧ Below W0.heap.size W0 wx)
  case first =>
    refine region_rel (n := 14) (by kernel_rfl) (by kernel_rfl) (by kernel_rfl) (fun u => ⟨#[.pointer (some ⟨w.heap.size, 0, none⟩), .pointer (some ⟨w.heap.size + 1 + 1 + 1 + 1, 0, none⟩), .pointer (some ⟨w.heap.size + 1 + 1 + 1 + 1 + 1, 0, none⟩), .pointer (some ⟨w.heap.size + 1 + 1 + 1 + 1 + 1 + 1, 0, none⟩), u 4, undef, undef, .agg #[.string ⟨#[105, 100]⟩, .bool true], .agg #[.string ⟨#[118, 97, 108, 117, 101]⟩, .bool true], .agg #[.string ⟨#[98, 121]⟩, .bool true], u 10, u 11, u 12, u 13, u 14, u 15, u 16, u 17, u 18, u 19, u 20, u 21, u 22, undef, undef, undef, undef, undef, undef, undef, undef, undef, undef, undef, undef, undef, undef, undef, undef, undef, undef, undef, undef, undef, undef, undef, undef, undef, undef, undef, undef, undef, undef], []⟩) (fun _ => undef) dst2 dst2_one (P2 W0.heap.size) (JG grp2) (P2.up _) (JG.start _ _ _ (fun _ _ => rfl)) ?step ?last
    case step =>
      intro u w2 i hi hb hj hdep
      have hcase : i = 0 ∨ i = 1 ∨ i = 2 ∨ i = 3 ∨ i = 4 ∨ i = 5 ∨ i = 6 ∨ i = 7 ∨ i = 8 ∨ i = 9 ∨ i = 10 ∨ i = 11 ∨ i = 12 ∨ i = 13 := by omega
      rcases hcase with rfl | rfl | rfl | rfl | rfl | rfl | rfl | rfl | rfl | rfl | rfl | rfl | rfl | rfl
      · obtain ⟨i0, i1, v0, v1, b0, b1⟩ := KS.out _ hb
        refine wpOp_step rfl (fun K hK => ?_)
        clear hdep
        go_simp
        exact hK _ _ ⟨.agg #[.string ⟨#[105, 100]⟩, .bool true], rfl, Below.refl _ _, rfl, hj.other rfl _ (by simp)⟩
      · have d0 : u 10 = .agg #[.string ⟨#[105, 100]⟩, .bool true] := hdep _ rfl ⟨0, .data⟩ (by simp) rfl
        refine wpOp_step rfl (fun K hK => ?_)
        clear hdep
        go_simp
        exact hK _ _ ⟨.slice (some ⟨w2.heap.size, 0, none⟩) 1 1, by simp [upd, dst2, d0], (Below.refl _ _).alloc (Nat.le_refl _) _, ⟨w2.heap.size, rfl, hb.size, heap_alloc_new _ _⟩, hj.fresh rfl (Nat.le_refl _) (by simp) (by simp)⟩
      · have d : ArN W0.heap.size w2 (u 11) [⟨sId, true⟩] := hdep _ rfl ⟨1, .data⟩ (by simp) rfl
        obtain ⟨b, e1, e2, e3⟩ := d
        refine wpOp_step rfl (fun K hK => ?_)
        clear hdep
        go_simp
        refine (fieldOf_any _ _ _ _ _ _).mono ?_
        rintro e w' ⟨rfl, rfl⟩
        have hB := (Below.refl w2.heap.size w2).alloc (Nat.le_refl _) (.cells #[.string ⟨#[110, 111, 100, 101]⟩, .slice (some ⟨b, 0, none⟩) 1 1, .string ⟨#[78, 111, 100, 101]⟩, .bool false, .bool false] 90)
        exact hK _ _ ⟨.agg #[.string ⟨#[110, 111, 100, 101]⟩, .slice (some ⟨b, 0, none⟩) 1 1, .string ⟨#[78, 111, 100, 101]⟩, .bool false, .bool false], by simp [upd, dst2, e1], hB, ⟨b, rfl, e2, (hB.block b (Array.getElem?_eq_some_iff.1 e3).1).trans e3⟩, hj.same (s0 := 11) (by rw [e1]; rfl) rfl hB.size⟩
      · obtain ⟨i0, i1, v0, v1, b0, b1⟩ := KS.out _ hb
        refine wpOp_step rfl (fun K hK => ?_)
        clear hdep
        go_simp
        exact hK _ _ ⟨.agg #[.string ⟨#[105, 100]⟩, .bool true], rfl, Below.refl _ _, rfl, hj.other rfl _ (by simp)⟩
      · have d3 : u 13 = .agg #[.string ⟨#[105, 100]⟩, .bool true] := hdep _ rfl ⟨3, .data⟩ (by simp) rfl
        refine wpOp_step rfl (fun K hK => ?_)
        clear hdep
        go_simp
        exact hK _ _ ⟨.slice (some ⟨w2.heap.size, 0, none⟩) 1 1, by simp [upd, dst2, d3], (Below.refl _ _).alloc (Nat.le_refl _) _, ⟨w2.heap.size, rfl, hb.size, heap_alloc_new _ _⟩, hj.fresh rfl (Nat.le_refl _) (by simp) (by simp)⟩
      · have d : ArN W0.heap.size w2 (u 14) [⟨sId, true⟩] := hdep _ rfl ⟨4, .data⟩ (by simp) rfl
        obtain ⟨b, e1, e2, e3⟩ := d
        refine wpOp_step rfl (fun K hK => ?_)
        clear hdep
        go_simp
        refine (fieldOf_any _ _ _ _ _ _).mono ?_
        rintro e w' ⟨rfl, rfl⟩
        have hB := (Below.refl w2.heap.size w2).alloc (Nat.le_refl _) (.cells #[.string ⟨#[109, 117, 115, 116]⟩, .slice (some ⟨b, 0, none⟩) 1 1, .string ⟨#[78, 111, 100, 101]⟩, .bool false, .bool false] 90)
        exact hK _ _ ⟨.agg #[.string ⟨#[109, 117, 115, 116]⟩, .slice (some ⟨b, 0, none⟩) 1 1, .string ⟨#[78, 111, 100, 101]⟩, .bool false, .bool false], by simp [upd, dst2, e1], hB, ⟨b, rfl, e2, (hB.block b (Array.getElem?_eq_some_iff.1 e3).1).trans e3⟩, hj.same (s0 := 14) (by rw [e1]; rfl) rfl hB.size⟩
      · have d : FdN W0.heap.size w2 (u 15) (flat fq1) := hdep _ rfl ⟨5, .data⟩ (by simp) rfl
        obtain ⟨b, e1, e2, e3⟩ := d
        unfold flat at e1
        dsimp only at e1
        refine wpOp_step rfl (fun K hK => ?_)
        clear hdep
        go_simp
        refine (banged_any _ _ _ _ _ _ _ _).mono ?_
        rintro e w' ⟨rfl, rfl⟩
        have hB := ((Below.refl w2.heap.size w2).alloc (Nat.le_refl _) (.cells #[.string fq1.nm, .slice (some ⟨b, 0, none⟩) fq1.args.length fq1.args.length, .string fq1.ty, .bool false, .bool true] 90)).alloc (by simp) (.cells #[.string fq1.nm, .slice (some ⟨b, 0, none⟩) fq1.args.length fq1.args.length, .string fq1.ty, .bool false, .bool true] 90)
        exact hK _ _ ⟨.agg #[.string fq1.nm, .slice (some ⟨b, 0, none⟩) fq1.args.length fq1.args.length, .string fq1.ty, .bool false, .bool true], by simp [upd, dst2, e1], hB, ⟨b, rfl, e2, (hB.block b (Array.getElem?_eq_some_iff.1 e3).1).trans e3⟩, hj.same (s0 := 15) (by rw [e1]; rfl) rfl hB.size⟩
      · refine wpOp_step rfl (fun K hK => ?_)
        clear hdep
        go_simp
        refine (fieldOf_any _ _ _ _ _ _).mono ?_
        rintro e w' ⟨rfl, rfl⟩
        exact hK _ _ ⟨_, rfl, (Below.refl _ _).alloc (Nat.le_refl _) _, rfl, hj.other rfl _ (by simp)⟩
      · have d : FdZ (u 17) (flat fq2) := hdep _ rfl ⟨7, .data⟩ (by simp) rfl
        unfold FdZ flat at d
        dsimp only at d
        refine wpOp_step rfl (fun K hK => ?_)
        clear hdep
        go_simp
        refine (listed_any _ _ _ _ _ _ _ _).mono ?_
        rintro e w' ⟨rfl, rfl⟩
        exact hK _ _ ⟨.agg #[.string fq2.nm, .slice none 0 0, .string fq2.ty, .bool true, .bool false], by simp [upd, dst2, d], ((Below.refl _ _).alloc (Nat.le_refl _) _).alloc (by simp) _, rfl, hj.other rfl _ (by simp <;> omega)⟩
      · refine wpOp_step rfl (fun K hK => ?_)
        clear hdep
        go_simp
        refine (fieldOf_any _ _ _ _ _ _).mono ?_
        rintro e w' ⟨rfl, rfl⟩
        exact hK _ _ ⟨_, rfl, (Below.refl _ _).alloc (Nat.le_refl _) _, rfl, hj.other rfl _ (by simp)⟩
      · have d : FdZ (u 19) (flat fq3) := hdep _ rfl ⟨9, .data⟩ (by simp) rfl
        unfold FdZ flat at d
        dsimp only at d
        refine wpOp_step rfl (fun K hK => ?_)
        clear hdep
        go_simp
        refine (banged_any _ _ _ _ _ _ _ _).mono ?_
        rintro e w' ⟨rfl, rfl⟩
        exact hK _ _ ⟨.agg #[.string fq3.nm, .slice none 0 0, .string fq3.ty, .bool false, .bool true], by simp [upd, dst2, d], ((Below.refl _ _).alloc (Nat.le_refl _) _).alloc (by simp) _, rfl, hj.other rfl _ (by simp <;> omega)⟩
      · have d2 : FdN W0.heap.size w2 (u 12) fq0 := hdep _ rfl ⟨2, .data⟩ (by simp) rfl
        obtain ⟨b2, e2, f2, h2⟩ := d2
        have l2 := (Array.getElem?_eq_some_iff.1 h2).1
        have d6 : FdN W0.heap.size w2 (u 16) fq1 := hdep _ rfl ⟨6, .data⟩ (by simp) rfl
        obtain ⟨b6, e6, f6, h6⟩ := d6
        have l6 := (Array.getElem?_eq_some_iff.1 h6).1
        have d8 : FdZ (u 18) fq2 := hdep _ rfl ⟨8, .data⟩ (by simp) rfl
        unfold FdZ at d8
        have d10 : FdZ (u 20) fq3 := hdep _ rfl ⟨10, .data⟩ (by simp) rfl
        unfold FdZ at d10
        have n2_6 : b2 ≠ b6 := fun hx => hj.2 12 16 (by decide) (by decide) (by decide) b2 (by rw [e2]; rfl) (by rw [e6, hx]; rfl)
        refine wpOp_step rfl (fun K hK => ?_)
        clear hdep
        go_simp
        have hB : Below w2.heap.size w2 _ := (Below.refl w2.heap.size w2).alloc (Nat.le_refl _) (.cells (fdvs qFs [(some ⟨b2, 0, none⟩, (fq0).args.length), (some ⟨b6, 0, none⟩, (fq1).args.length), (none, 0), (none, 0)]).toArray 90)
        have hO : FdOwn (w2.alloc (.cells (fdvs qFs [(some ⟨b2, 0, none⟩, (fq0).args.length), (some ⟨b6, 0, none⟩, (fq1).args.length), (none, 0), (none, 0)]).toArray 90)) (some ⟨w2.heap.size, 0, none⟩) qFs [w2.heap.size, b2, b6] := FdOwn.lay qFs [(some ⟨b2, 0, none⟩, (fq0).args.length), (some ⟨b6, 0, none⟩, (fq1).args.length), (none, 0), (none, 0)] [[b2], [b6], [], []] (heap_alloc_new _ _) ⟨AgOwn.lay _ ((hB.block b2 l2).trans h2), AgOwn.lay _ ((hB.block b6 l6).trans h6), AgOwn.lay0 _ _, AgOwn.lay0 _ _, trivial⟩
        refine hK _ _ ⟨.slice (some ⟨w2.heap.size, 0, none⟩) 4 4, by simp [upd, dst2, e2, e6, d8, d10], hB, ⟨w2.heap.size, [w2.heap.size, b2, b6], rfl, hO, ?_, ?_⟩, hj.other rfl _ (by simp)⟩
        · simp only [List.nodup_cons, List.mem_cons, List.not_mem_nil, or_false, not_or, not_false_eq_true, List.nodup_nil, and_true]
          omega
        · intro k hk
          simp only [List.mem_cons, List.not_mem_nil, or_false] at hk
          rcases hk with rfl | rfl | rfl
          · exact ⟨hb.size, _, _, heap_alloc_new _ _, by decide⟩
          · exact ⟨f2, _, _, (hB.block _ l2).trans h2, by decide⟩
          · exact ⟨f6, _, _, (hB.block _ l6).trans h6, by decide⟩
      · have d : FsS W0.heap.size w2 (u 21) qFs := hdep _ rfl ⟨11, .data⟩ (by simp) rfl
        obtain ⟨F, bs, e1, e2, e3, e4⟩ := d
        refine wpOp_step rfl (fun K hK => ?_)
        clear hdep
        go_simp
        refine (typeOf_any _ _ _ _ _).mono ?_
        rintro e w' ⟨rfl, rfl⟩
        have hB := (Below.refl w2.heap.size w2).alloc (Nat.le_refl _) (.cells #[.string ⟨#[81, 117, 101, 114, 121]⟩, .slice (some ⟨F, 0, none⟩) qFs.length qFs.length] 93)
        exact hK _ _ ⟨.agg #[.string ⟨#[81, 117, 101, 114, 121]⟩, .slice (some ⟨F, 0, none⟩) qFs.length qFs.length], by simp [upd, dst2, e1], hB, ⟨_, rfl, FsS.up ⟨F, bs, rfl, e2, e3, e4⟩ hB⟩, hj.other rfl _ (by simp)⟩
      · refine wpOp_step rfl (fun K hK => ?_)
        clear hdep
        go_simp
        exact hK _ _ ⟨.pointer (some ⟨w2.heap.size, 0, none⟩), rfl, (Below.refl _ _).alloc (Nat.le_refl _) _, ⟨w2.heap.size, rfl, hb.size, heap_alloc_new _ _⟩, hj.other rfl _ (by simp)⟩
    case last =>
      intro u w2 hb hj hp
      have d1 : TyS W0.heap.size w2 (u 22) sQuery qFs := hp 12 (by omega)
      have d2 : VaS W0.heap.size w2 (u 4) := hp 13 (by omega)
      obtain ⟨p, e0, F, bs, rfl, e2, e3, e4⟩ := d1
      obtain ⟨g, e5, e6, e7⟩ := d2
      have cg0 := row_cell e7 0
      have cg1 := row_cell e7 1
      have fg0 := row_frozen e7 0
      have fg1 := row_frozen e7 1
      have hg : ∀ k ∈ bs, k ≠ g := by
        rintro k hk rfl
        obtain ⟨_, cs, T, h1, h2⟩ := e4 k hk
        rw [e7] at h1
        simp only [Option.some.injEq, Obj.cells.injEq] at h1
        exact h2 h1.2.1.symm
      clear hp hj
      refine wpOp_step rfl (fun K hK => ?_)
      go_simp
      refine hK _ _ ?_
      clear hK K
      go_wp2_with fail
      go_meet
      have HH := row_set (row_set e7 0 (Value.string sQuery)) 1 (Value.slice (some ⟨F, 0, none⟩) qFs.length qFs.length)
      refine ⟨⟨g, _, _, rfl, e6, HH, bs, FdOwn.same e2 (fun k hk => ?_), e3, fun k hk => ?_⟩, ?_⟩
      · rw [heap_set _ _ _ _ _ (hg k hk), heap_set _ _ _ _ _ (hg k hk)]
      · obtain ⟨h1, cs, T, h2, _⟩ := e4 k hk
        have := (Array.getElem?_eq_some_iff.1 h2).1
        refine ⟨h1, ?_⟩
        simp <;> omega
      · exact (hb.setCell e6 _).setCell e6 _
  obtain ⟨⟨g2, a2, c2, rfl, q2, h2, m2⟩, bb2⟩ := hcut
  obtain ⟨W1, rfl⟩ : ∃ W, W = wc := ⟨wc, rfl⟩
  have z2 : W0.heap.size ≤ W1.heap.size := bb2.size
  have H2 : Hid (W1.heap[g2]? = some (.cells #[.string sQuery, .slice a2 qFs.length c2] 93 (0, 0))) := h2
  have M2 : Hid (FdMine W0.heap.size W1.heap.size W1 a2 qFs) := m2
  have B2 : Hid (Below W0.heap.size W0 W1) := bb2
  have KS : Hid (∀ w', Below W1.heap.size W1 w' → w'.cell? ⟨w.heap.size + 4, 0, none⟩ = some (.string ⟨#[105, 100]⟩) ∧ w'.cell? ⟨w.heap.size + 4, 1, none⟩ = some (.bool true) ∧ w'.cell? ⟨w.heap.size + 5, 0, none⟩ = some (.string ⟨#[118, 97, 108, 117, 101]⟩) ∧ w'.cell? ⟨w.heap.size + 5, 1, none⟩ = some (.bool true) ∧ w'.cell? ⟨w.heap.size + 6, 0, none⟩ = some (.string ⟨#[98, 121]⟩) ∧ w'.cell? ⟨w.heap.size + 6, 1, none⟩ = some (.bool true)) := fun w' h => KS.out w' (B2.out.trans (h.mono B2.out.size))
  clear h2 m2 bb2
  go_wp2_with fail
  go_cut [5] from 23 to 36 (fun u wx => Made W1.heap.size wx u sMut mFs ∧ Below W1.heap.size W1 wx)
  case first =>
    refine region_rel (n := 15) (by kernel_rfl) (by kernel_rfl) (by kernel_rfl) (fun u => ⟨#[.pointer (some ⟨w.heap.size, 0, none⟩), .pointer (some ⟨w.heap.size + 1 + 1 + 1 + 1, 0, none⟩), .pointer (some ⟨w.heap.size + 1 + 1 + 1 + 1 + 1, 0, none⟩), .pointer (some ⟨w.heap.size + 1 + 1 + 1 + 1 + 1 + 1, 0, none⟩), .pointer (some ⟨g2, 0, none⟩), u 5, undef, .agg #[.string ⟨#[105, 100]⟩, .bool true], .agg #[.string ⟨#[118, 97, 108, 117, 101]⟩, .bool true], .agg #[.string ⟨#[98, 121]⟩, .bool true], u10, u11, u12, u13, u14, u15, u16, u17, u18, u19, u20, u21, u22, u 23, u 24, u 25, u 26, u 27, u 28, u 29, u 30, u 31, u 32, u 33, u 34, u 35, u 36, undef, undef, undef, undef, undef, undef, undef, undef, undef, undef, undef, undef, undef, undef, undef, undef], []⟩) (fun _ => undef) dst3 dst3_one (P3 W1.heap.size) (JG grp3) (P3.up _) (JG.start _ _ _ (fun _ _ => rfl)) ?step ?last
    case step =>
      intro u w2 i hi hb hj hdep
      have hcase : i = 0 ∨ i = 1 ∨ i = 2 ∨ i = 3 ∨ i = 4 ∨ i = 5 ∨ i = 6 ∨ i = 7 ∨ i = 8 ∨ i = 9 ∨ i = 10 ∨ i = 11 ∨ i = 12 ∨ i = 13 ∨ i = 14 := by omega
      rcases hcase with rfl | rfl | rfl | rfl | rfl | rfl | rfl | rfl | rfl | rfl | rfl | rfl | rfl | rfl | rfl
      · obtain ⟨i0, i1, v0, v1, b0, b1⟩ := KS.out _ hb
        refine wpOp_step rfl (fun K hK => ?_)
        clear hdep
        go_simp
        exact hK _ _ ⟨.agg #[.string ⟨#[105, 100]⟩, .bool true], rfl, Below.refl _ _, rfl, hj.other rfl _ (by simp)⟩
      · obtain ⟨i0, i1, v0, v1, b0, b1⟩ := KS.out _ hb
        refine wpOp_step rfl (fun K hK => ?_)
        clear hdep
        go_simp
        exact hK _ _ ⟨.agg #[.string ⟨#[118, 97, 108, 117, 101]⟩, .bool true], rfl, Below.refl _ _, rfl, hj.other rfl _ (by simp)⟩
      · have d0 : u 23 = .agg #[.string ⟨#[105, 100]⟩, .bool true] := hdep _ rfl ⟨0, .data⟩ (by simp) rfl
        have d1 : u 24 = .agg #[.string ⟨#[118, 97, 108, 117, 101]⟩, .bool true] := hdep _ rfl ⟨1, .data⟩ (by simp) rfl
        refine wpOp_step rfl (fun K hK => ?_)
        clear hdep
        go_simp
        exact hK _ _ ⟨.slice (some ⟨w2.heap.size, 0, none⟩) 2 2, by simp [upd, dst3, d0, d1], (Below.refl _ _).alloc (Nat.le_refl _) _, ⟨w2.heap.size, rfl, hb.size, heap_alloc_new _ _⟩, hj.fresh rfl (Nat.le_refl _) (by simp) (by simp)⟩
      · have d : ArN W1.heap.size w2 (u 25) [⟨sId, true⟩, ⟨sValue, true⟩] := hdep _ rfl ⟨2, .data⟩ (by simp) rfl
        obtain ⟨b, e1, e2, e3⟩ := d
        refine wpOp_step rfl (fun K hK => ?_)
        clear hdep
        go_simp
        refine (fieldOf_any _ _ _ _ _ _).mono ?_
        rintro e w' ⟨rfl, rfl⟩
        have hB := (Below.refl w2.heap.size w2).alloc (Nat.le_refl _) (.cells #[.string ⟨#[115, 101, 116]⟩, .slice (some ⟨b, 0, none⟩) 2 2, .string ⟨#[78, 111, 100, 101]⟩, .bool false, .bool false] 90)
        exact hK _ _ ⟨.agg #[.string ⟨#[115, 101, 116]⟩, .slice (some ⟨b, 0, none⟩) 2 2, .string ⟨#[78, 111, 100, 101]⟩, .bool false, .bool false], by simp [upd, dst3, e1], hB, ⟨b, rfl, e2, (hB.block b (Array.getElem?_eq_some_iff.1 e3).1).trans e3⟩, hj.same (s0 := 25) (by rw [e1]; rfl) rfl hB.size⟩
      · obtain ⟨i0, i1, v0, v1, b0, b1⟩ := KS.out _ hb
        refine wpOp_step rfl (fun K hK => ?_)
        clear hdep
        go_simp
        exact hK _ _ ⟨.agg #[.string ⟨#[105, 100]⟩, .bool true], rfl, Below.refl _ _, rfl, hj.other rfl _ (by simp)⟩
      · obtain ⟨i0, i1, v0, v1, b0, b1⟩ := KS.out _ hb
        refine wpOp_step rfl (fun K hK => ?_)
        clear hdep
        go_simp
        exact hK _ _ ⟨.agg #[.string ⟨#[98, 121]⟩, .bool true], rfl, Below.refl _ _, rfl, hj.other rfl _ (by simp)⟩
      · have d4 : u 27 = .agg #[.string ⟨#[105, 100]⟩, .bool true] := hdep _ rfl ⟨4, .data⟩ (by simp) rfl
        have d5 : u 28 = .agg #[.string ⟨#[98, 121]⟩, .bool true] := hdep _ rfl ⟨5, .data⟩ (by simp) rfl
        refine wpOp_step rfl (fun K hK => ?_)
        clear hdep
        go_simp
        exact hK _ _ ⟨.slice (some ⟨w2.heap.size, 0, none⟩) 2 2, by simp [upd, dst3, d4, d5], (Below.refl _ _).alloc (Nat.le_refl _) _, ⟨w2.heap.size, rfl, hb.size, heap_alloc_new _ _⟩, hj.fresh rfl (Nat.le_refl _) (by simp) (by simp)⟩
      · have d : ArN W1.heap.size w2 (u 29) [⟨sId, true⟩, ⟨sBy, true⟩] := hdep _ rfl ⟨6, .data⟩ (by simp) rfl
        obtain ⟨b, e1, e2, e3⟩ := d
        refine wpOp_step rfl (fun K hK => ?_)
        clear hdep
        go_simp
        refine (fieldOf_any _ _ _ _ _ _).mono ?_
        rintro e w' ⟨rfl, rfl⟩
        have hB := (Below.refl w2.heap.size w2).alloc (Nat.le_refl _) (.cells #[.string ⟨#[97, 100, 100]⟩, .slice (some ⟨b, 0, none⟩) 2 2, .string ⟨#[78, 111, 100, 101]⟩, .bool false, .bool false] 90)
        exact hK _ _ ⟨.agg #[.string ⟨#[97, 100, 100]⟩, .slice (some ⟨b, 0, none⟩) 2 2, .string ⟨#[78, 111, 100, 101]⟩, .bool false, .bool false], by simp [upd, dst3, e1], hB, ⟨b, rfl, e2, (hB.block b (Array.getElem?_eq_some_iff.1 e3).1).trans e3⟩, hj.same (s0 := 29) (by rw [e1]; rfl) rfl hB.size⟩
      · obtain ⟨i0, i1, v0, v1, b0, b1⟩ := KS.out _ hb
        refine wpOp_step rfl (fun K hK => ?_)
        clear hdep
        go_simp
        exact hK _ _ ⟨.agg #[.string ⟨#[105, 100]⟩, .bool true], rfl, Below.refl _ _, rfl, hj.other rfl _ (by simp)⟩
      · refine wpOp_step rfl (fun K hK => ?_)
        clear hdep
        go_simp
        exact hK _ _ ⟨.agg #[.string ⟨#[116, 111]⟩, .bool false], rfl, Below.refl _ _, rfl, hj.other rfl _ (by simp)⟩
      · have d8 : u 31 = .agg #[.string ⟨#[105, 100]⟩, .bool true] := hdep _ rfl ⟨8, .data⟩ (by simp) rfl
        have d9 : u 32 = .agg #[.string ⟨#[116, 111]⟩, .bool false] := hdep _ rfl ⟨9, .data⟩ (by simp) rfl
        refine wpOp_step rfl (fun K hK => ?_)
        clear hdep
        go_simp
        exact hK _ _ ⟨.slice (some ⟨w2.heap.size, 0, none⟩) 2 2, by simp [upd, dst3, d8, d9], (Below.refl _ _).alloc (Nat.le_refl _) _, ⟨w2.heap.size, rfl, hb.size, heap_alloc_new _ _⟩, hj.fresh rfl (Nat.le_refl _) (by simp) (by simp)⟩
      · have d : ArN W1.heap.size w2 (u 33) [⟨sId, true⟩, ⟨sTo, false⟩] := hdep _ rfl ⟨10, .data⟩ (by simp) rfl
        obtain ⟨b, e1, e2, e3⟩ := d
        refine wpOp_step rfl (fun K hK => ?_)
        clear hdep
        go_simp
        refine (fieldOf_any _ _ _ _ _ _).mono ?_
        rintro e w' ⟨rfl, rfl⟩
        have hB := (Below.refl w2.heap.size w2).alloc (Nat.le_refl _) (.cells #[.string ⟨#[108, 105, 110, 107]⟩, .slice (some ⟨b, 0, none⟩) 2 2, .string ⟨#[78, 111, 100, 101]⟩, .bool false, .bool false] 90)
        exact hK _ _ ⟨.agg #[.string ⟨#[108, 105, 110, 107]⟩, .slice (some ⟨b, 0, none⟩) 2 2, .string ⟨#[78, 111, 100, 101]⟩, .bool false, .bool false], by simp [upd, dst3, e1], hB, ⟨b, rfl, e2, (hB.block b (Array.getElem?_eq_some_iff.1 e3).1).trans e3⟩, hj.same (s0 := 33) (by rw [e1]; rfl) rfl hB.size⟩
      · have d3 : FdN W1.heap.size w2 (u 26) fm0 := hdep _ rfl ⟨3, .data⟩ (by simp) rfl
        obtain ⟨b3, e3, f3, h3⟩ := d3
        have l3 := (Array.getElem?_eq_some_iff.1 h3).1
        have d7 : FdN W1.heap.size w2 (u 30) fm1 := hdep _ rfl ⟨7, .data⟩ (by simp) rfl
        obtain ⟨b7, e7, f7, h7⟩ := d7
        have l7 := (Array.getElem?_eq_some_iff.1 h7).1
        have d11 : FdN W1.heap.size w2 (u 34) fm2 := hdep _ rfl ⟨11, .data⟩ (by simp) rfl
        obtain ⟨b11, e11, f11, h11⟩ := d11
        have l11 := (Array.getElem?_eq_some_iff.1 h11).1
        have n3_7 : b3 ≠ b7 := fun hx => hj.2 26 30 (by decide) (by decide) (by decide) b3 (by rw [e3]; rfl) (by rw [e7, hx]; rfl)
        have n3_11 : b3 ≠ b11 := fun hx => hj.2 26 34 (by decide) (by decide) (by decide) b3 (by rw [e3]; rfl) (by rw [e11, hx]; rfl)
        have n7_11 : b7 ≠ b11 := fun hx => hj.2 30 34 (by decide) (by decide) (by decide) b7 (by rw [e7]; rfl) (by rw [e11, hx]; rfl)
        refine wpOp_step rfl (fun K hK => ?_)
        clear hdep
        go_simp
        have hB : Below w2.heap.size w2 _ := (Below.refl w2.heap.size w2).alloc (Nat.le_refl _) (.cells (fdvs mFs [(some ⟨b3, 0, none⟩, (fm0).args.length), (some ⟨b7, 0, none⟩, (fm1).args.length), (some ⟨b11, 0, none⟩, (fm2).args.length)]).toArray 90)
        have hO : FdOwn (w2.alloc (.cells (fdvs mFs [(some ⟨b3, 0, none⟩, (fm0).args.length), (some ⟨b7, 0, none⟩, (fm1).args.length), (some ⟨b11, 0, none⟩, (fm2).args.length)]).toArray 90)) (some ⟨w2.heap.size, 0, none⟩) mFs [w2.heap.size, b3, b7, b11] := FdOwn.lay mFs [(some ⟨b3, 0, none⟩, (fm0).args.length), (some ⟨b7, 0, none⟩, (fm1).args.length), (some ⟨b11, 0, none⟩, (fm2).args.length)] [[b3], [b7], [b11]] (heap_alloc_new _ _) ⟨AgOwn.lay _ ((hB.block b3 l3).trans h3), AgOwn.lay _ ((hB.block b7 l7).trans h7), AgOwn.lay _ ((hB.block b11 l11).trans h11), trivial⟩
        refine hK _ _ ⟨.slice (some ⟨w2.heap.size, 0, none⟩) 3 3, by simp [upd, dst3, e3, e7, e11], hB, ⟨w2.heap.size, [w2.heap.size, b3, b7, b11], rfl, hO, ?_, ?_⟩, hj.other rfl _ (by simp)⟩
        · simp only [List.nodup_cons, List.mem_cons, List.not_mem_nil, or_false, not_or, not_false_eq_true, List.nodup_nil, and_true]
          omega
        · intro k hk
          simp only [List.mem_cons, List.not_mem_nil, or_false] at hk
          rcases hk with rfl | rfl | rfl | rfl
          · exact ⟨hb.size, _, _, heap_alloc_new _ _, by decide⟩
          · exact ⟨f3, _, _, (hB.block _ l3).trans h3, by decide⟩
          · exact ⟨f7, _, _, (hB.block _ l7).trans h7, by decide⟩
          · exact ⟨f11, _, _, (hB.block _ l11).trans h11, by decide⟩
      · have d : FsS W1.heap.size w2 (u 35) mFs := hdep _ rfl ⟨12, .data⟩ (by simp) rfl
        obtain ⟨F, bs, e1, e2, e3, e4⟩ := d
        refine wpOp_step rfl (fun K hK => ?_)
        clear hdep
        go_simp
        refine (typeOf_any _ _ _ _ _).mono ?_
        rintro e w' ⟨rfl, rfl⟩
        have hB := (Below.refl w2.heap.size w2).alloc (Nat.le_refl _) (.cells #[.string ⟨#[77, 117, 116, 97, 116, 105, 111, 110]⟩, .slice (some ⟨F, 0, none⟩) mFs.length mFs.length] 93)
        exact hK _ _ ⟨.agg #[.string ⟨#[77, 117, 116, 97, 116, 105, 111, 110]⟩, .slice (some ⟨F, 0, none⟩) mFs.length mFs.length], by simp [upd, dst3, e1], hB, ⟨_, rfl, FsS.up ⟨F, bs, rfl, e2, e3, e4⟩ hB⟩, hj.other rfl _ (by simp)⟩
      · refine wpOp_step rfl (fun K hK => ?_)
        clear hdep
        go_simp
        exact hK _ _ ⟨.pointer (some ⟨w2.heap.size, 0, none⟩), rfl, (Below.refl _ _).alloc (Nat.le_refl _) _, ⟨w2.heap.size, rfl, hb.size, heap_alloc_new _ _⟩, hj.other rfl _ (by simp)⟩
    case last =>
      intro u w2 hb hj hp
      have d1 : TyS W1.heap.size w2 (u 36) sMut mFs := hp 13 (by omega)
      have d2 : VaS W1.heap.size w2 (u 5) := hp 14 (by omega)
      obtain ⟨p, e0, F, bs, rfl, e2, e3, e4⟩ := d1
      obtain ⟨g, e5, e6, e7⟩ := d2
      have cg0 := row_cell e7 0
      have cg1 := row_cell e7 1
      have fg0 := row_frozen e7 0
      have fg1 := row_frozen e7 1
      have hg : ∀ k ∈ bs, k ≠ g := by
        rintro k hk rfl
        obtain ⟨_, cs, T, h1, h2⟩ := e4 k hk
        rw [e7] at h1
        simp only [Option.some.injEq, Obj.cells.injEq] at h1
        exact h2 h1.2.1.symm
      clear hp hj
      refine wpOp_step rfl (fun K hK => ?_)
      go_simp
      refine hK _ _ ?_
      clear hK K
      go_wp2_with fail
      go_meet
      have HH := row_set (row_set e7 0 (Value.string sMut)) 1 (Value.slice (some ⟨F, 0, none⟩) mFs.length mFs.length)
      refine ⟨⟨g, _, _, rfl, e6, HH, bs, FdOwn.same e2 (fun k hk => ?_), e3, fun k hk => ?_⟩, ?_⟩
      · rw [heap_set _ _ _ _ _ (hg k hk), heap_set _ _ _ _ _ (hg k hk)]
      · obtain ⟨h1, cs, T, h2, _⟩ := e4 k hk
        have := (Array.getElem?_eq_some_iff.1 h2).1
        refine ⟨h1, ?_⟩
        simp <;> omega
      · exact (hb.setCell e6 _).setCell e6 _
  obtain ⟨⟨g3, a3, c3, rfl, q3, h3, m3⟩, bb3⟩ := hcut
  obtain ⟨W2, rfl⟩ : ∃ W, W = wc := ⟨wc, rfl⟩
  have z3 : W1.heap.size ≤ W2.heap.size := bb3.size
  have H3 : Hid (W2.heap[g3]? = some (.cells #[.string sMut, .slice a3 mFs.length c3] 93 (0, 0))) := h3
  have M3 : Hid (FdMine W1.heap.size W2.heap.size W2 a3 mFs) := m3
  have B3 : Hid (Below W1.heap.size W1 W2) := bb3
  have KS : Hid (∀ w', Below W2.heap.size W2 w' → w'.cell? ⟨w.heap.size + 4, 0, none⟩ = some (.string ⟨#[105, 100]⟩) ∧ w'.cell? ⟨w.heap.size + 4, 1, none⟩ = some (.bool true) ∧ w'.cell? ⟨w.heap.size + 5, 0, none⟩ = some (.string ⟨#[118, 97, 108, 117, 101]⟩) ∧ w'.cell? ⟨w.heap.size + 5, 1, none⟩ = some (.bool true) ∧ w'.cell? ⟨w.heap.size + 6, 0, none⟩ = some (.string ⟨#[98, 121]⟩) ∧ w'.cell? ⟨w.heap.size + 6, 1, none⟩ = some (.bool true)) := fun w' h => KS.out w' (B3.out.trans (h.mono B3.out.size))
  clear h3 m3 bb3
  go_wp2_with fail
  go_cut [6] from 37 to 47 (fun u wx => Made W2.heap.size wx u sNodeT nFs ∧ Below W2.heap.size W2 wx)
  case first =>
    refine region_rel (n := 12) (by kernel_rfl) (by kernel_rfl) (by kernel_rfl) (fun u => ⟨#[.pointer (some ⟨w.heap.size, 0, none⟩), .pointer (some ⟨w.heap.size + 1 + 1 + 1 + 1, 0, none⟩), .pointer (some ⟨w.heap.size + 1 + 1 + 1 + 1 + 1, 0, none⟩), .pointer (some ⟨w.heap.size + 1 + 1 + 1 + 1 + 1 + 1, 0, none⟩), .pointer (some ⟨g2, 0, none⟩), .pointer (some ⟨g3, 0, none⟩), u 6, .agg #[.string ⟨#[105, 100]⟩, .bool true], .agg #[.string ⟨#[118, 97, 108, 117, 101]⟩, .bool true], .agg #[.string ⟨#[98, 121]⟩, .bool true], u10, u11, u12, u13, u14, u15, u16, u17, u18, u19, u20, u21, u22, u23, u24, u25, u26, u27, u28, u29, u30, u31, u32, u33, u34, u35, u36, u 37, u 38, u 39, u 40, u 41, u 42, u 43, u 44, u 45, u 46, u 47, undef, undef, undef, undef, undef], []⟩) (fun _ => undef) dst4 dst4_one (P4 W2.heap.size) (JG grp4) (P4.up _) (JG.start _ _ _ (fun _ _ => rfl)) ?step ?last
    case step =>
      intro u w2 i hi hb hj hdep
      have hcase : i = 0 ∨ i = 1 ∨ i = 2 ∨ i = 3 ∨ i = 4 ∨ i = 5 ∨ i = 6 ∨ i = 7 ∨ i = 8 ∨ i = 9 ∨ i = 10 ∨ i = 11 := by omega
      rcases hcase with rfl | rfl | rfl | rfl | rfl | rfl | rfl | rfl | rfl | rfl | rfl | rfl
      · refine wpOp_step rfl (fun K hK => ?_)
        clear hdep
        go_simp
        refine (fieldOf_any _ _ _ _ _ _).mono ?_
        rintro e w' ⟨rfl, rfl⟩
        exact hK _ _ ⟨_, rfl, (Below.refl _ _).alloc (Nat.le_refl _) _, rfl, hj.other rfl _ (by simp)⟩
      · have d : FdZ (u 37) (flat fn0) := hdep _ rfl ⟨0, .data⟩ (by simp) rfl
        unfold FdZ flat at d
        dsimp only at d
        refine wpOp_step rfl (fun K hK => ?_)
        clear hdep
        go_simp
        refine (banged_any _ _ _ _ _ _ _ _).mono ?_
        rintro e w' ⟨rfl, rfl⟩
        exact hK _ _ ⟨.agg #[.string fn0.nm, .slice none 0 0, .string fn0.ty, .bool false, .bool true], by simp [upd, dst4, d], ((Below.refl _ _).alloc (Nat.le_refl _) _).alloc (by simp) _, rfl, hj.other rfl _ (by simp <;> omega)⟩
      · refine wpOp_step rfl (fun K hK => ?_)
        clear hdep
        go_simp
        refine (fieldOf_any _ _ _ _ _ _).mono ?_
        rintro e w' ⟨rfl, rfl⟩
        exact hK _ _ ⟨_, rfl, (Below.refl _ _).alloc (Nat.le_refl _) _, rfl, hj.other rfl _ (by simp)⟩
      · obtain ⟨i0, i1, v0, v1, b0, b1⟩ := KS.out _ hb
        refine wpOp_step rfl (fun K hK => ?_)
        clear hdep
        go_simp
        exact hK _ _ ⟨.agg #[.string ⟨#[98, 121]⟩, .bool true], rfl, Below.refl _ _, rfl, hj.other rfl _ (by simp)⟩
      · have d3 : u 40 = .agg #[.string ⟨#[98, 121]⟩, .bool true] := hdep _ rfl ⟨3, .data⟩ (by simp) rfl
        refine wpOp_step rfl (fun K hK => ?_)
        clear hdep
        go_simp
        exact hK _ _ ⟨.slice (some ⟨w2.heap.size, 0, none⟩) 1 1, by simp [upd, dst4, d3], (Below.refl _ _).alloc (Nat.le_refl _) _, ⟨w2.heap.size, rfl, hb.size, heap_alloc_new _ _⟩, hj.fresh rfl (Nat.le_refl _) (by simp) (by simp)⟩
      · have d : ArN W2.heap.size w2 (u 41) [⟨sBy, true⟩] := hdep _ rfl ⟨4, .data⟩ (by simp) rfl
        obtain ⟨b, e1, e2, e3⟩ := d
        refine wpOp_step rfl (fun K hK => ?_)
        clear hdep
        go_simp
        refine (fieldOf_any _ _ _ _ _ _).mono ?_
        rintro e w' ⟨rfl, rfl⟩
        have hB := (Below.refl w2.heap.size w2).alloc (Nat.le_refl _) (.cells #[.string ⟨#[112, 108, 117, 115]⟩, .slice (some ⟨b, 0, none⟩) 1 1, .string ⟨#[73, 110, 116]⟩, .bool false, .bool false] 90)
        exact hK _ _ ⟨.agg #[.string ⟨#[112, 108, 117, 115]⟩, .slice (some ⟨b, 0, none⟩) 1 1, .string ⟨#[73, 110, 116]⟩, .bool false, .bool false], by simp [upd, dst4, e1], hB, ⟨b, rfl, e2, (hB.block b (Array.getElem?_eq_some_iff.1 e3).1).trans e3⟩, hj.same (s0 := 41) (by rw [e1]; rfl) rfl hB.size⟩
      · refine wpOp_step rfl (fun K hK => ?_)
        clear hdep
        go_simp
        refine (fieldOf_any _ _ _ _ _ _).mono ?_
        rintro e w' ⟨rfl, rfl⟩
        exact hK _ _ ⟨_, rfl, (Below.refl _ _).alloc (Nat.le_refl _) _, rfl, hj.other rfl _ (by simp)⟩
      · refine wpOp_step rfl (fun K hK => ?_)
        clear hdep
        go_simp
        refine (fieldOf_any _ _ _ _ _ _).mono ?_
        rintro e w' ⟨rfl, rfl⟩
        exact hK _ _ ⟨_, rfl, (Below.refl _ _).alloc (Nat.le_refl _) _, rfl, hj.other rfl _ (by simp)⟩
      · have d : FdZ (u 44) (flat fn4) := hdep _ rfl ⟨7, .data⟩ (by simp) rfl
        unfold FdZ flat at d
        dsimp only at d
        refine wpOp_step rfl (fun K hK => ?_)
        clear hdep
        go_simp
        refine (banged_any _ _ _ _ _ _ _ _).mono ?_
        rintro e w' ⟨rfl, rfl⟩
        exact hK _ _ ⟨.agg #[.string fn4.nm, .slice none 0 0, .string fn4.ty, .bool false, .bool true], by simp [upd, dst4, d], ((Below.refl _ _).alloc (Nat.le_refl _) _).alloc (by simp) _, rfl, hj.other rfl _ (by simp <;> omega)⟩
      · have d1 : FdZ (u 38) fn0 := hdep _ rfl ⟨1, .data⟩ (by simp) rfl
        unfold FdZ at d1
        have d2 : FdZ (u 39) fn1 := hdep _ rfl ⟨2, .data⟩ (by simp) rfl
        unfold FdZ at d2
        have d5 : FdN W2.heap.size w2 (u 42) fn2 := hdep _ rfl ⟨5, .data⟩ (by simp) rfl
        obtain ⟨b5, e5, f5, h5⟩ := d5
        have l5 := (Array.getElem?_eq_some_iff.1 h5).1
        have d6 : FdZ (u 43) fn3 := hdep _ rfl ⟨6, .data⟩ (by simp) rfl
        unfold FdZ at d6
        have d8 : FdZ (u 45) fn4 := hdep _ rfl ⟨8, .data⟩ (by simp) rfl
        unfold FdZ at d8
        refine wpOp_step rfl (fun K hK => ?_)
        clear hdep
        go_simp
        have hB : Below w2.heap.size w2 _ := (Below.refl w2.heap.size w2).alloc (Nat.le_refl _) (.cells (fdvs nFs [(none, 0), (none, 0), (some ⟨b5, 0, none⟩, (fn2).args.length), (none, 0), (none, 0)]).toArray 90)
        have hO : FdOwn (w2.alloc (.cells (fdvs nFs [(none, 0), (none, 0), (some ⟨b5, 0, none⟩, (fn2).args.length), (none, 0), (none, 0)]).toArray 90)) (some ⟨w2.heap.size, 0, none⟩) nFs [w2.heap.size, b5] := FdOwn.lay nFs [(none, 0), (none, 0), (some ⟨b5, 0, none⟩, (fn2).args.length), (none, 0), (none, 0)] [[], [], [b5], [], []] (heap_alloc_new _ _) ⟨AgOwn.lay0 _ _, AgOwn.lay0 _ _, AgOwn.lay _ ((hB.block b5 l5).trans h5), AgOwn.lay0 _ _, AgOwn.lay0 _ _, trivial⟩
        refine hK _ _ ⟨.slice (some ⟨w2.heap.size, 0, none⟩) 5 5, by simp [upd, dst4, d1, d2, e5, d6, d8], hB, ⟨w2.heap.size, [w2.heap.size, b5], rfl, hO, ?_, ?_⟩, hj.other rfl _ (by simp)⟩
        · simp only [List.nodup_cons, List.mem_cons, List.not_mem_nil, or_false, not_false_eq_true, List.nodup_nil, and_true]
          omega
        · intro k hk
          simp only [List.mem_cons, List.not_mem_nil, or_false] at hk
          rcases hk with rfl | rfl
          · exact ⟨hb.size, _, _, heap_alloc_new _ _, by decide⟩
          · exact ⟨f5, _, _, (hB.block _ l5).trans h5, by decide⟩
      · have d : FsS W2.heap.size w2 (u 46) nFs := hdep _ rfl ⟨9, .data⟩ (by simp) rfl
        obtain ⟨F, bs, e1, e2, e3, e4⟩ := d
        refine wpOp_step rfl (fun K hK => ?_)
        clear hdep
        go_simp
        refine (typeOf_any _ _ _ _ _).mono ?_
        rintro e w' ⟨rfl, rfl⟩
        have hB := (Below.refl w2.heap.size w2).alloc (Nat.le_refl _) (.cells #[.string ⟨#[78, 111, 100, 101]⟩, .slice (some ⟨F, 0, none⟩) nFs.length nFs.length] 93)
        exact hK _ _ ⟨.agg #[.string ⟨#[78, 111, 100, 101]⟩, .slice (some ⟨F, 0, none⟩) nFs.length nFs.length], by simp [upd, dst4, e1], hB, ⟨_, rfl, FsS.up ⟨F, bs, rfl, e2, e3, e4⟩ hB⟩, hj.other rfl _ (by simp)⟩
      · refine wpOp_step rfl (fun K hK => ?_)
        clear hdep
        go_simp
        exact hK _ _ ⟨.pointer (some ⟨w2.heap.size, 0, none⟩), rfl, (Below.refl _ _).alloc (Nat.le_refl _) _, ⟨w2.heap.size, rfl, hb.size, heap_alloc_new _ _⟩, hj.other rfl _ (by simp)⟩
    case last =>
      intro u w2 hb hj hp
      have d1 : TyS W2.heap.size w2 (u 47) sNodeT nFs := hp 10 (by omega)
      have d2 : VaS W2.heap.size w2 (u 6) := hp 11 (by omega)
      obtain ⟨p, e0, F, bs, rfl, e2, e3, e4⟩ := d1
      obtain ⟨g, e5, e6, e7⟩ := d2
      have cg0 := row_cell e7 0
      have cg1 := row_cell e7 1
      have fg0 := row_frozen e7 0
      have fg1 := row_frozen e7 1
      have hg : ∀ k ∈ bs, k ≠ g := by
        rintro k hk rfl
        obtain ⟨_, cs, T, h1, h2⟩ := e4 k hk
        rw [e7] at h1
        simp only [Option.some.injEq, Obj.cells.injEq] at h1
        exact h2 h1.2.1.symm
      clear hp hj
      refine wpOp_step rfl (fun K hK => ?_)
      go_simp
      refine hK _ _ ?_
      clear hK K
      go_wp2_with fail
      go_meet
      have HH := row_set (row_set e7 0 (Value.string sNodeT)) 1 (Value.slice (some ⟨F, 0, none⟩) nFs.length nFs.length)
      refine ⟨⟨g, _, _, rfl, e6, HH, bs, FdOwn.same e2 (fun k hk => ?_), e3, fun k hk => ?_⟩, ?_⟩
      · rw [heap_set _ _ _ _ _ (hg k hk), heap_set _ _ _ _ _ (hg k hk)]
      · obtain ⟨h1, cs, T, h2, _⟩ := e4 k hk
        have := (Array.getElem?_eq_some_iff.1 h2).1
        refine ⟨h1, ?_⟩
        simp <;> omega
      · exact (hb.setCell e6 _).setCell e6 _
  obtain ⟨⟨g4, a4, c4, rfl, q4, h4, m4⟩, bb4⟩ := hcut
  obtain ⟨W3, rfl⟩ : ∃ W, W = wc := ⟨wc, rfl⟩
  have z4 : W2.heap.size ≤ W3.heap.size := bb4.size
  have H4 : Hid (W3.heap[g4]? = some (.cells #[.string sNodeT, .slice a4 nFs.length c4] 93 (0, 0))) := h4
  have M4 : Hid (FdMine W2.heap.size W3.heap.size W3 a4 nFs) := m4
  have B4 : Hid (Below W2.heap.size W2 W3) := bb4
  have KS : Hid (∀ w', Below W3.heap.size W3 w' → w'.cell? ⟨w.heap.size + 4, 0, none⟩ = some (.string ⟨#[105, 100]⟩) ∧ w'.cell? ⟨w.heap.size + 4, 1, none⟩ = some (.bool true) ∧ w'.cell? ⟨w.heap.size + 5, 0, none⟩ = some (.string ⟨#[118, 97, 108, 117, 101]⟩) ∧ w'.cell? ⟨w.heap.size + 5, 1, none⟩ = some (.bool true) ∧ w'.cell? ⟨w.heap.size + 6, 0, none⟩ = some (.string ⟨#[98, 121]⟩) ∧ w'.cell? ⟨w.heap.size + 6, 1, none⟩ = some (.bool true)) := fun w' h => KS.out w' (B4.out.trans (h.mono B4.out.size))
  clear h4 m4 bb4
  have L2 : g2 < W1.heap.size := (Array.getElem?_eq_some_iff.1 H2.out).1
  have L3 : g3 < W2.heap.size := (Array.getElem?_eq_some_iff.1 H3.out).1
  have x2 : Below W1.heap.size W1 W3 := B3.out.trans (B4.out.mono (by omega))
  have y2 : W3.heap[g2]? = _ := (x2.block g2 L2).trans H2.out
  have y3 : W3.heap[g3]? = _ := (B4.out.block g3 L3).trans H3.out
  have p20 : W3.cell? ⟨g2, 0, none⟩ = some (.string sQuery) := row_cell y2 0
  have p21 : W3.cell? ⟨g2, 1, none⟩ = some (.slice a2 qFs.length c2) := row_cell y2 1
  have p30 : W3.cell? ⟨g3, 0, none⟩ = some (.string sMut) := row_cell y3 0
  have p31 : W3.cell? ⟨g3, 1, none⟩ = some (.slice a3 mFs.length c3) := row_cell y3 1
  have p40 : W3.cell? ⟨g4, 0, none⟩ = some (.string sNodeT) := row_cell H4.out 0
  have p41 : W3.cell? ⟨g4, 1, none⟩ = some (.slice a4 nFs.length c4) := row_cell H4.out 1
  have x0 : Below W0.heap.size W0 W3 := B2.out.trans (x2.mono (by omega))
  have yN : W3.heap[w.heap.size]? = some (.cells #[.slice none 0 0] 59 (0, 0)) := (x0.block w.heap.size (by omega)).trans HR.out
  have rN : ∀ o, (W3.alloc o).heap[w.heap.size]? = some (.cells #[.slice none 0 0] 59 (0, 0)) := fun o => (Below.heap_alloc _ _ _ (by omega)).trans yN
  have cN : ∀ o, (W3.alloc o).cell? ⟨w.heap.size, 0, none⟩ = some (.slice none 0 0) := fun o => row_cell (rN o) 0
  have fN : ∀ o, (W3.alloc o).frozen? ⟨w.heap.size, 0, none⟩ = false := fun o => row_frozen (rN o) 0
  have QN : Hid (Below w.heap.size w W3) := BW.out.trans (x0.mono (by omega))
  have X2 : Hid (Below W1.heap.size W1 W3) := x2
  have RN : Hid (∀ o, (W3.alloc o).heap[w.heap.size]? = some (.cells #[.slice none 0 0] 59 (0, 0))) := rN
  clear x2 y2 y3 x0 yN rN HR KS
  go_wp2_with fail
  refine bodyPost_ret (v := .agg #[.slice (some ⟨W3.heap.size, 0, none⟩) 3 3]) ?res rfl ⟨_, _, rfl, ?_, ?_⟩
  case res =>
    have cR : ∀ o v, ((W3.alloc o).setCell ⟨w.heap.size, 0, none⟩ v).cell? ⟨w.heap.size, 0, none⟩ = some v := fun o v => row_cell (row_set (RN.out o) 0 v) 0
    simp [results, Tryz.results31, go_sem, cR]
  · obtain ⟨s2, o2, n2, i2⟩ := M2.out
    obtain ⟨s3, o3, n3, i3⟩ := M3.out
    obtain ⟨s4, o4, n4, i4⟩ := M4.out
    have hN : w.heap.size < W0.heap.size := by omega
    have hT : ((W3.alloc (.cells #[.string sQuery, .slice a2 qFs.length c2, .string sMut, .slice a3 mFs.length c3, .string sNodeT, .slice a4 nFs.length c4] 93)).setCell ⟨w.heap.size, 0, none⟩ (.slice (some ⟨W3.heap.size, 0, none⟩) 3 3)).heap[W3.heap.size]? = some (.cells (tdvs PL [(a2, c2), (a3, c3), (a4, c4)]).toArray 93 (0, 0)) := (heap_set _ _ _ _ _ (by omega)).trans (heap_alloc_new _ _)
    have e3 : ∀ k, W0.heap.size ≤ k → k < W3.heap.size → ((W3.alloc (.cells #[.string sQuery, .slice a2 qFs.length c2, .string sMut, .slice a3 mFs.length c3, .string sNodeT, .slice a4 nFs.length c4] 93)).setCell ⟨w.heap.size, 0, none⟩ (.slice (some ⟨W3.heap.size, 0, none⟩) 3 3)).heap[k]? = W3.heap[k]? := fun k h1 h2 => (heap_set _ _ _ _ _ (by omega)).trans (Below.heap_alloc _ _ _ h2)
    have hO := TdOwn.lay PL [(a2, c2), (a3, c3), (a4, c4)] [s2, s3, s4] hT
      ⟨FdOwn.same o2 (fun k hk => (e3 k (i2 k hk).1 (by have := (i2 k hk).2; omega)).trans (X2.out.block k (i2 k hk).2)),
       FdOwn.same o3 (fun k hk => (e3 k (by have := (i3 k hk).1; omega) (by have := (i3 k hk).2; omega)).trans (B4.out.block k (i3 k hk).2)),
       FdOwn.same o4 (fun k hk => e3 k (by have := (i4 k hk).1; omega) (i4 k hk).2), trivial⟩
    refine ⟨_, hO, ?_, ?_⟩
    · simp only [List.flatten_cons, List.flatten_nil, List.append_nil, List.nodup_cons, List.mem_append, not_or, List.nodup_append]
      refine ⟨⟨fun h => ?_, fun h => ?_, fun h => ?_⟩, n2, ⟨n3, n4, fun a ha b hb hab => ?_⟩, fun a ha b hb hab => ?_⟩
      · have := (i2 _ h).2; omega
      · have := (i3 _ h).2; omega
      · have := (i4 _ h).2; omega
      · have := (i3 a ha).2; have := (i4 b hb).1; omega
      · have h1 := (i2 a ha).2
        rcases hb with hb | hb
        · have := (i3 b hb).1; omega
        · have := (i4 b hb).1; omega
    · intro k hk
      simp only [List.flatten_cons, List.flatten_nil, List.append_nil, List.mem_cons, List.mem_append] at hk
      have hsz : ((W3.alloc (.cells #[.string sQuery, .slice a2 qFs.length c2, .string sMut, .slice a3 mFs.length c3, .string sNodeT, .slice a4 nFs.length c4] 93)).setCell ⟨w.heap.size, 0, none⟩ (.slice (some ⟨W3.heap.size, 0, none⟩) 3 3)).heap.size = W3.heap.size + 1 := by simp
      rw [hsz]
      rcases hk with rfl | hk | hk | hk
      · omega
      · have := i2 k hk; omega
      · have := i3 k hk; omega
      · have := i4 k hk; omega
  · exact (QN.out.alloc QN.out.size _).setCell (Nat.le_refl _) _
end Go.Proofs.YtkjndghkimnjeaaGreat.G
