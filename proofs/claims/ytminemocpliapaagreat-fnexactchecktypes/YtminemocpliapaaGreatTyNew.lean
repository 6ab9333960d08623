/- CheckTypes: the program's checker, made. -/
import Derived.Test.YtminemocpliapaaGreatTyTypes
import Derived.Test.YtminemocpliapaaGreatGRegion
import Derived.Laws.EntriesVeiled
import Derived.Deep.RegionWith
import Derived.Deep.CutRange
namespace Go.Proofs.YtminemocpliapaaGreat
open Go.ChangeShapes Go.WideShapes Go.ChangeAt Go.RowKit Go.Maps
set_option linter.unusedVariables false

theorem make_types (n : Int) (w : World) : (Instr.makeMap 92 (some (.int .i64 n))).run Tryz.prog w = .ok (.map (some w.heap.size)) (w.alloc (.map #[] 0)) := by kernel_rfl
theorem TdHeld.new {w0 wx : World} {B : Nat} (h : wx.heap[B]? = some (.map #[] 0)) : TdHeld w0 wx B [] := by
  obtain ⟨es, clock, h1, h2⟩ := World.ownsMap_made w0 Tryz.prog 9 heldE
  rw [heap_alloc_new] at h1
  simp only [Option.some.injEq, Obj.map.injEq] at h1
  obtain ⟨rfl, rfl⟩ := h1
  exact ⟨.map [], 0, ⟨#[], 0, h, h2⟩, Nat.zero_le _, fun s => rfl, fun x hx => by simp at hx⟩
theorem FrHeld.map {w0 w : World} {B : Nat} {L : List De} (h : FrHeld w0 w B L) : ∃ es clock, w.heap[B]? = some (.map es clock) := by
  obtain ⟨D, n, ⟨es, clock, h1, h2⟩, h3⟩ := h
  exact ⟨es, clock, h1⟩
theorem TdHeld.map {w0 w : World} {B : Nat} {L : List G.Td} (h : TdHeld w0 w B L) : ∃ es clock, w.heap[B]? = some (.map es clock) := by
  obtain ⟨D, n, ⟨es, clock, h1, h2⟩, h3⟩ := h
  exact ⟨es, clock, h1⟩
def rulesV (c0 : Value) : Array Value := #[.func (.func 61) #[] #[], .func (.func 62) #[c0] #[], .func (.func 63) #[] #[], .func (.func 64) #[] #[], .func (.func 65) #[] #[], .func (.func 66) #[] #[], .func (.func 67) #[] #[]]
/-- A checker of types: its maps, its rules. -/
structure Tc (w0 w : World) (S : List G.Td) (D : List De) (Bt Bf R : Nat) : Prop where
  ty : TdHeld w0 w Bt S
  fr : ∃ w1, FrHeld w1 w Bf (frsOf D)
  rl : w.heap[R]? = some (.cells (rulesV (tcV Bt Bf none 0 0)) 123 (0, 0))
  be : Below w0.heap.size w0 w
theorem Tc.keep {w0 w w' : World} {S : List G.Td} {D : List De} {Bt Bf R : Nat} (h : Tc w0 w S D Bt Bf R) (hb : Below w.heap.size w w') : Tc w0 w' S D Bt Bf R :=
  ⟨h.ty.keep (hb.block _ h.ty.lt), by obtain ⟨w1, hf⟩ := h.fr; exact ⟨w1, hf.keep (hb.block _ hf.lt)⟩, (hb.block _ (Array.getElem?_eq_some_iff.1 h.rl).1).trans h.rl, h.be.trans (hb.mono h.be.size)⟩
theorem hasT_no {S : List G.Td} (h : G.OkN (S.map G.Td.nm)) {k : Nat} (hk : k < S.length) : hasT (S.take k) S[k].nm = false := by
  have hs := (h k (by simpa using hk)).2
  cases hc : hasT (S.take k) S[k].nm with
  | false => rfl
  | true =>
    exfalso
    unfold hasT at hc
    rw [List.any_eq_true] at hc
    obtain ⟨x, hx, he⟩ := hc
    rw [List.mem_take_iff_getElem] at hx
    obtain ⟨i, hi, rfl⟩ := hx
    rw [G.seen_of (k := i) (by simp; omega) (show i < k by omega) (by simpa using he)] at hs
    cases hs

def dstN (i : Nat) : Nat := if i = 7 then 5 else 8 + i
theorem dstN_one : ∀ i j, i < 8 → j < 8 → dstN i = dstN j → i = j := by
  intro i j hi hj h; unfold dstN at h; split at h <;> split at h <;> omega
def PN (N : Nat) (a : Option Addr) (n c : Nat) (a' : Option Addr) (n' c' : Nat) (D : List De) (i : Nat) (v : Value) (wx : World) : Prop :=
  match i with
  | 0 => v = .pointer (some ⟨N, 0, none⟩)
  | 1 => v = .slice a n c
  | 2 => v = .int .i64 n
  | 3 => ∃ B, v = .map (some B) ∧ N + 3 ≤ B ∧ wx.heap[B]? = some (.map #[] 0)
  | 4 => v = .agg #[.slice a' n' c']
  | 5 => ∃ B w1, v = .map (some B) ∧ N + 3 ≤ B ∧ FrHeld w1 wx B (frsOf D)
  | 6 => ∃ B B' w1, v = .agg #[.map (some B), .map (some B'), .slice none 0 0] ∧ B ≠ B' ∧ N + 3 ≤ B ∧ N + 3 ≤ B' ∧ wx.heap[B]? = some (.map #[] 0) ∧ FrHeld w1 wx B' (frsOf D)
  | 7 => ∃ B, v = .pointer (some ⟨B, 0, none⟩) ∧ N + 3 ≤ B ∧ wx.heap[B]? = some (.cells #[.map none, .map none, .slice none 0 0] 97 (0, 0))
  | _ => True
theorem PN.up (N : Nat) (a : Option Addr) (n c : Nat) (a' : Option Addr) (n' c' : Nat) (D : List De) : ∀ i v w w', PN N a n c a' n' c' D i v w → Below w.heap.size w w' → PN N a n c a' n' c' D i v w' := by
  intro i v w w' h hb
  have lt : ∀ {B : Nat} {o : Obj}, w.heap[B]? = some o → B < w.heap.size := fun h => (Array.getElem?_eq_some_iff.1 h).1
  unfold PN at h ⊢
  split at h
  · exact h
  · exact h
  · exact h
  · obtain ⟨B, h1, h2, h3⟩ := h; exact ⟨B, h1, h2, (hb.block _ (lt h3)).trans h3⟩
  · exact h
  · obtain ⟨B, w1, h1, h2, h3⟩ := h; exact ⟨B, w1, h1, h2, h3.keep (hb.block _ h3.lt)⟩
  · obtain ⟨B, B', w1, h1, h2, h3, h4, h5, h6⟩ := h; exact ⟨B, B', w1, h1, h2, h3, h4, (hb.block _ (lt h5)).trans h5, h6.keep (hb.block _ h6.lt)⟩
  · obtain ⟨B, h1, h2, h3⟩ := h; exact ⟨B, h1, h2, (hb.block _ (lt h3)).trans h3⟩
  · trivial
def JN (u : Nat → Value) (w : World) : Prop := (∀ b, u 11 = .map (some b) → b < w.heap.size) ∧ (∀ b, u 13 = .map (some b) → b < w.heap.size) ∧ ∀ b b', u 11 = .map (some b) → u 13 = .map (some b') → b ≠ b'
theorem JN.else_ {u : Nat → Value} {w w' : World} (h : JN u w) (hb : Below w.heap.size w w') {d : Nat} {v : Value} (h1 : d ≠ 11) (h2 : d ≠ 13) : JN (G.upd u d v) w' := by
  unfold JN at h ⊢
  rw [G.upd_ne _ _ (Ne.symm h1), G.upd_ne _ _ (Ne.symm h2)]
  have := hb.size
  exact ⟨fun b hb => by have := h.1 b hb; omega, fun b hb => by have := h.2.1 b hb; omega, h.2.2⟩
theorem JN.ty {u : Nat → Value} {w w' : World} (h : JN u w) (hb : Below w.heap.size w w') {B : Nat} (h1 : w.heap.size ≤ B) (h2 : B < w'.heap.size) : JN (G.upd u 11 (.map (some B))) w' := by
  unfold JN at h ⊢
  rw [G.upd_at, G.upd_ne _ _ (by omega)]
  have := hb.size
  refine ⟨fun b hb => ?_, fun b hb => by have := h.2.1 b hb; omega, fun b b' e1 e2 => ?_⟩
  · simp only [Value.map.injEq, Option.some.injEq] at hb; omega
  · simp only [Value.map.injEq, Option.some.injEq] at e1
    have := h.2.1 b' e2
    omega
theorem JN.fr {u : Nat → Value} {w w' : World} (h : JN u w) (hb : Below w.heap.size w w') {B : Nat} (h1 : w.heap.size ≤ B) (h2 : B < w'.heap.size) : JN (G.upd u 13 (.map (some B))) w' := by
  unfold JN at h ⊢
  rw [G.upd_at, G.upd_ne _ _ (by omega)]
  have := hb.size
  refine ⟨fun b hb => by have := h.1 b hb; omega, fun b hb => ?_, fun b b' e1 e2 => ?_⟩
  · simp only [Value.map.injEq, Option.some.injEq] at hb; omega
  · simp only [Value.map.injEq, Option.some.injEq] at e2
    have := h.1 b e1
    omega
/-- What the loop over the types goes by. -/
structure NewL (w wx : World) (S : List G.Td) (D : List De) (Bt Bf Bc : Nat) : Prop where
  ne : Bt ≠ Bf ∧ Bt ≠ Bc ∧ Bf ≠ Bc
  ge : w.heap.size + 3 ≤ Bt ∧ w.heap.size + 3 ≤ Bf ∧ w.heap.size + 3 ≤ Bc
  ty : TdHeld w wx Bt S
  fr : ∃ w1, FrHeld w1 wx Bf (frsOf D)
  ce : wx.heap[Bc]? = some (.cells #[.map (some Bt), .map (some Bf), .slice none 0 0] 97 (0, 0))
  rs : wx.heap[w.heap.size + 2]? = some (.cells #[.map none, .map none, .slice none 0 0] 97 (0, 0))
  be : Below w.heap.size w wx
theorem NewL.lt {w wx : World} {S : List G.Td} {D : List De} {Bt Bf Bc : Nat} (h : NewL w wx S D Bt Bf Bc) : Bt < wx.heap.size ∧ Bf < wx.heap.size ∧ Bc < wx.heap.size := by
  obtain ⟨w1, hf⟩ := h.fr
  exact ⟨h.ty.lt, hf.lt, (Array.getElem?_eq_some_iff.1 h.ce).1⟩

set_option maxHeartbeats 8000000 in
set_option maxRecDepth 40000 in
theorem new_check (a : Option Addr) (c : Nat) (S : List G.Td) (a' : Option Addr) (c' : Nat) (D : List De) (w : World) (hS : G.TdRow 0 w.heap.size w a S) (hO : G.OkN (S.map G.Td.nm)) (hB : G.TdsBd 1048576 S) (hD : DeRow 0 w.heap.size w a' D) (hb : DefsBd 1048576 D) :
    Calls Tryz.prog 41 #[.agg #[.slice a S.length c], .agg #[.slice a' D.length c']] w fun e w' => (∃ Bt Bf R, e = .returned (tcV Bt Bf (some ⟨R, 0, none⟩) 7 7) ∧ Tc w w' S D Bt Bf R) ∧ Below w.heap.size w w' := by
  have HS : Hid (∀ W0, Below w.heap.size w W0 → G.TdRow 0 w.heap.size W0 a S) := fun W0 hB => G.TdRow.keep hS (G.agree hB (Nat.le_refl _))
  have HSW : Hid (G.TdRow 0 w.heap.size w a S) := hS
  have HO : Hid (G.OkN (S.map G.Td.nm)) := hO
  have HB : Hid (G.TdsBd 1048576 S) := hB
  have K1 : Hid (∀ W0, Below w.heap.size w W0 → DeRow 0 W0.heap.size W0 a' D) := fun W0 hB => DeRow.up hD hB
  have HD : Hid (DefsBd 1048576 D) := hb
  have hl : S.length ≤ 1048576 := hB.1
  clear hS hO hB hD hb
  have hmk := fun W => make_types S.length W
  go_enter Tryz.func41, Tryz.ntmps41
  go_wp2_with fail
  obtain ⟨W, hW⟩ : ∃ W, W = ((w.alloc (.cells #[.slice a S.length c] 34)).alloc (.cells #[.slice a' D.length c'] 38)).alloc (.cells #[.map none, .map none, .slice none 0 0] 97) := ⟨_, rfl⟩
  rw [← hW]
  have zW : W.heap.size = w.heap.size + 3 := by rw [hW]; simp
  have BW : Hid (Below w.heap.size w W) := by rw [hW]; exact (((Below.refl _ _).alloc (Nat.le_refl _) _).alloc (by simp) _).alloc (by simp; omega) _
  have A0 : Hid (W.heap[w.heap.size]? = some (.cells #[.slice a S.length c] 34 (0, 0))) := by rw [Hid, hW, Below.heap_alloc _ _ _ (by simp; omega), Below.heap_alloc _ _ _ (by simp)]; exact heap_alloc_new _ _
  have A1 : Hid (W.heap[w.heap.size + 1]? = some (.cells #[.slice a' D.length c'] 38 (0, 0))) := by
    rw [Hid, hW, Below.heap_alloc _ _ _ (by simp)]
    have := heap_alloc_new (w.alloc (.cells #[.slice a S.length c] 34)) (.cells #[.slice a' D.length c'] 38)
    simpa using this
  have A2 : Hid (W.heap[w.heap.size + 2]? = some (.cells #[.map none, .map none, .slice none 0 0] 97 (0, 0))) := by
    rw [Hid, hW]
    have := heap_alloc_new ((w.alloc (.cells #[.slice a S.length c] 34)).alloc (.cells #[.slice a' D.length c'] 38)) (.cells #[.map none, .map none, .slice none 0 0] 97)
    simpa using this
  clear hW
  refine G.region_rel (n := 8) (by kernel_rfl) (by kernel_rfl) (by kernel_rfl) (fun u => ⟨#[.agg #[.slice a S.length c], .agg #[.slice a' D.length c'], .pointer (some ⟨w.heap.size, 0, none⟩), .pointer (some ⟨w.heap.size + 1, 0, none⟩), .pointer (some ⟨w.heap.size + 1 + 1, 0, none⟩), u 5, undef, undef, u 8, u 9, u 10, u 11, u 12, u 13, u 14, undef, undef, undef, undef, undef, undef, undef, undef, undef, undef, undef, undef, undef, undef, undef, undef, undef, undef], []⟩) (fun _ => undef) dstN dstN_one (PN w.heap.size a S.length c a' D.length c' D) JN (PN.up _ _ _ _ _ _ _ _) ?start ?step ?last
  case start => exact ⟨fun b h => (by cases h), fun b h => (by cases h), fun b b' h => (by cases h)⟩
  case step =>
    intro u w2 i hi hbw hj hdep
    have q0 := row_cell ((hbw.block w.heap.size (by omega)).trans A0.out) 0
    have q1 := row_cell ((hbw.block (w.heap.size + 1) (by omega)).trans A1.out) 0
    have z2 := hbw.size
    have HBw : Hid (Below w.heap.size w w2) := BW.out.trans (hbw.mono (by omega))
    have HJ : Hid (JN u w2) := hj
    clear hj hbw
    have hcase : i = 0 ∨ i = 1 ∨ i = 2 ∨ i = 3 ∨ i = 4 ∨ i = 5 ∨ i = 6 ∨ i = 7 := by omega
    rcases hcase with rfl | rfl | rfl | rfl | rfl | rfl | rfl | rfl
    · refine wpOp_step rfl (fun K hK => ?_)
      clear hdep
      go_simp
      exact hK _ _ ⟨_, rfl, Below.refl _ _, rfl, HJ.out.else_ (Below.refl _ _) (by decide) (by decide)⟩
    · have d0 : u 8 = .pointer (some ⟨w.heap.size, 0, none⟩) := hdep _ rfl ⟨0, .data⟩ (by simp) rfl
      refine wpOp_step rfl (fun K hK => ?_)
      clear hdep
      go_simp
      exact hK _ _ ⟨_, by simp [G.upd, dstN, d0], Below.refl _ _, rfl, HJ.out.else_ (Below.refl _ _) (by decide) (by decide)⟩
    · have d1 : u 9 = .slice a S.length c := hdep _ rfl ⟨1, .data⟩ (by simp) rfl
      refine wpOp_step rfl (fun K hK => ?_)
      clear hdep
      go_simp
      exact hK _ _ ⟨_, by simp [G.upd, dstN, d1], Below.refl _ _, rfl, HJ.out.else_ (Below.refl _ _) (by decide) (by decide)⟩
    · have d2 : u 10 = .int .i64 S.length := hdep _ rfl ⟨2, .data⟩ (by simp) rfl
      refine wpOp_step rfl (fun K hK => ?_)
      clear hdep
      go_simp
      exact hK _ _ ⟨.map (some w2.heap.size), by simp [G.upd, dstN, d2], (Below.refl _ _).alloc (Nat.le_refl _) _, ⟨w2.heap.size, rfl, by omega, heap_alloc_new _ _⟩, HJ.out.ty ((Below.refl _ _).alloc (Nat.le_refl _) _) (Nat.le_refl _) (by simp)⟩
    · refine wpOp_step rfl (fun K hK => ?_)
      clear hdep
      go_simp
      exact hK _ _ ⟨_, rfl, Below.refl _ _, rfl, HJ.out.else_ (Below.refl _ _) (by decide) (by decide)⟩
    · have d4 : u 12 = .agg #[.slice a' D.length c'] := hdep _ rfl ⟨4, .data⟩ (by simp) rfl
      refine wpOp_step rfl (fun K hK => ?_)
      clear hdep
      go_simp
      refine (frs_of a' c' D _ (K1.out _ HBw.out) HD.out).mono ?_
      rintro e w8 ⟨B, rfl, hB, hF, hb8⟩
      exact hK _ _ ⟨.map (some B), by simp [G.upd, dstN, d4], hb8, ⟨B, w2, rfl, by omega, hF⟩, HJ.out.fr hb8 hB hF.lt⟩
    · have p3 : PN w.heap.size a S.length c a' D.length c' D 3 (u 11) w2 := hdep _ rfl ⟨3, .data⟩ (by simp) rfl
      have p5 : PN w.heap.size a S.length c a' D.length c' D 5 (u 13) w2 := hdep _ rfl ⟨5, .data⟩ (by simp) rfl
      obtain ⟨B, e1, e2, e3⟩ := p3
      obtain ⟨B', w1, f1, f2, f3⟩ := p5
      have hne := HJ.out.2.2 B B' e1 f1
      refine wpOp_step rfl (fun K hK => ?_)
      clear hdep
      go_simp
      exact hK _ _ ⟨.agg #[.map (some B), .map (some B'), .slice none 0 0], by simp [G.upd, dstN, e1, f1], Below.refl _ _, ⟨B, B', w1, rfl, hne, e2, f2, e3, f3⟩, HJ.out.else_ (Below.refl _ _) (by decide) (by decide)⟩
    · refine wpOp_step rfl (fun K hK => ?_)
      clear hdep
      go_simp
      exact hK _ _ ⟨.pointer (some ⟨w2.heap.size, 0, none⟩), rfl, (Below.refl _ _).alloc (Nat.le_refl _) _, ⟨w2.heap.size, rfl, by omega, heap_alloc_new _ _⟩, HJ.out.else_ ((Below.refl _ _).alloc (Nat.le_refl _) _) (by decide) (by decide)⟩
  case last =>
    intro u w2 hbw _ hp
    have p6 : PN w.heap.size a S.length c a' D.length c' D 6 (u 14) w2 := hp 6 (by omega)
    have p7 : PN w.heap.size a S.length c a' D.length c' D 7 (u 5) w2 := hp 7 (by omega)
    obtain ⟨Bt, Bf, w1, e1, hne, g1, g2, e2, e3⟩ := p6
    obtain ⟨Bc, f1, g3, f2⟩ := p7
    obtain ⟨es, clock, e4⟩ := e3.map
    have n1 : Bt ≠ Bc := fun e => by subst e; rw [e2] at f2; cases f2
    have n2 : Bf ≠ Bc := fun e => by subst e; rw [e4] at f2; cases f2
    have z2 := hbw.size
    have cc := fun o => row_cell f2 o
    have cf := fun o => row_frozen f2 o
    have Q2 : Hid (Below w.heap.size w w2) := BW.out.trans (hbw.mono (by omega))
    have A02 : Hid (w2.heap[w.heap.size]? = some (.cells #[.slice a S.length c] 34 (0, 0))) := (hbw.block w.heap.size (by omega)).trans A0.out
    have A22 : Hid (w2.heap[w.heap.size + 2]? = some (.cells #[.map none, .map none, .slice none 0 0] 97 (0, 0))) := (hbw.block (w.heap.size + 2) (by omega)).trans A2.out
    have E2 : Hid (w2.heap[Bt]? = some (.map #[] 0)) := e2
    have E3 : Hid (FrHeld w1 w2 Bf (frsOf D)) := e3
    have F2 : Hid (w2.heap[Bc]? = some (.cells #[.map none, .map none, .slice none 0 0] 97 (0, 0))) := f2
    clear hp hbw e2 e3 e4 f2
    refine wpOp_step rfl (fun K hK => ?_)
    go_simp
    refine hK _ _ ?_
    clear hK K
    obtain ⟨X, hX⟩ : ∃ X, X = ((w2.setCell ⟨Bc, 0, none⟩ (.map (some Bt))).setCell ⟨Bc, 1, none⟩ (.map (some Bf))).setCell ⟨Bc, 2, none⟩ (.slice none 0 0) := ⟨_, rfl⟩
    rw [← hX]
    have hs : ∀ g, g ≠ Bc → X.heap[g]? = w2.heap[g]? := fun g hg => by
      rw [hX]
      rw [Below.heap_setCell _ _ _ _ hg, Below.heap_setCell _ _ _ _ hg, Below.heap_setCell _ _ _ _ hg]
    have L0 : Hid (NewL w X (S.take 0) D Bt Bf Bc) := by
      refine ⟨⟨hne, n1, n2⟩, ⟨g1, g2, g3⟩, TdHeld.new ((hs _ n1).trans E2.out), ⟨w1, E3.out.keep (hs _ n2)⟩, ?_, (hs _ (by omega)).trans A22.out, ?_⟩
      · rw [hX]
        have := row_set (row_set (row_set F2.out 0 (.map (some Bt))) 1 (.map (some Bf))) 2 (.slice none 0 0)
        simpa using this
      · rw [hX]
        exact ((Q2.out.setCell (p := ⟨Bc, 0, none⟩) (show w.heap.size ≤ Bc by omega) _).setCell (p := ⟨Bc, 1, none⟩) (show w.heap.size ≤ Bc by omega) _).setCell (p := ⟨Bc, 2, none⟩) (show w.heap.size ≤ Bc by omega) _
    have q0 := row_cell ((hs w.heap.size (by omega)).trans A02.out) 0
    clear hX hs cc cf E2 E3 F2 A02 A22
    go_wp2_with fail
    clear q0
    go_loopw [18] (fun i w' => ∃ (k : Nat), k ≤ S.length ∧ i = .int .i64 k ∧ Hid (NewL w w' (S.take k) D Bt Bf Bc)) (fun i _ => S.length - (intOf i).toNat)
    case atStart => exact ⟨0, by omega, rfl, L0⟩
    case round =>
      obtain ⟨k, hk, rfl, HL⟩ := hrel
      obtain ⟨l1, l2, l3⟩ := HL.out.lt
      by_cases hlt : k < S.length
      case neg =>
        have L9 : Hid (NewL w wr S D Bt Bf Bc) := by have := HL.out; rwa [List.take_of_length_le (by omega)] at this
        have c0 := fun o => row_cell L9.out.ce o
        have f0 := fun o => row_frozen L9.out.ce o
        obtain ⟨v1, v2, v3⟩ := L9.out.ge
        obtain ⟨m1, m2, m3⟩ := L9.out.ne
        have h2 : ∀ v ob, ((wr.setCell ⟨Bc, 2, none⟩ v).alloc ob).heap[w.heap.size + 1 + 1]? = some (.cells #[.map none, .map none, .slice none 0 0] 97 (0, 0)) := fun v ob => by
          rw [Below.heap_alloc _ _ _ (by simp; omega), Below.heap_setCell _ _ _ _ (show w.heap.size + 1 + 1 ≠ Bc by omega)]
          exact L9.out.rs
        have c2 := fun v ob o => row_cell (h2 v ob) o
        have f2 := fun v ob o => row_frozen (h2 v ob) o
        have HR9 : Hid (∀ W0 : World, Below w.heap.size w W0 → W0.heap[Bt]? = wr.heap[Bt]? → W0.heap[Bf]? = wr.heap[Bf]? → W0.heap[wr.heap.size]? = some (.cells (rulesV (tcV Bt Bf none 0 0)) 123 (0, 0)) → Tc w W0 S D Bt Bf wr.heap.size) :=
          fun W0 hB h1 h2 h3 => ⟨L9.out.ty.keep h1, by obtain ⟨w1, hf⟩ := L9.out.fr; exact ⟨w1, hf.keep h2⟩, h3, hB⟩
        have QW : Hid (Below w.heap.size w wr) := L9.out.be
        have hzz := QW.out.size
        clear HL L0 h2
        go_wp2_with fail
        refine bodyPost_ret (v := tcV Bt Bf (some ⟨wr.heap.size, 0, none⟩) 7 7) (by simp [results, Tryz.results41, go_sem, c2, tcV]) rfl ⟨⟨Bt, Bf, wr.heap.size, rfl, HR9.out _ ?_ ?_ ?_ ?_⟩, ?_⟩
        · repeat (first | exact QW.out | refine Below.setCell ?_ (by first | omega | (simp <;> omega)) _ | refine Below.alloc ?_ (by first | omega | (simp <;> omega)) _)
        · repeat rw [Below.heap_setCell _ _ _ _ (show Bt ≠ w.heap.size + 1 + 1 by omega)]
          rw [Below.heap_alloc _ _ _ (by simp; omega), Below.heap_setCell _ _ _ _ (show Bt ≠ Bc by omega)]
        · repeat rw [Below.heap_setCell _ _ _ _ (show Bf ≠ w.heap.size + 1 + 1 by omega)]
          rw [Below.heap_alloc _ _ _ (by simp; omega), Below.heap_setCell _ _ _ _ (show Bf ≠ Bc by omega)]
        · repeat rw [Below.heap_setCell _ _ _ _ (show wr.heap.size ≠ w.heap.size + 1 + 1 by omega)]
          have := heap_alloc_new (wr.setCell ⟨Bc, 2, none⟩ (.slice (some ⟨wr.heap.size, 0, none⟩) 7 7)) (.cells (rulesV (tcV Bt Bf none 0 0)) 123)
          rw [show (wr.setCell ⟨Bc, 2, none⟩ (.slice (some ⟨wr.heap.size, 0, none⟩) 7 7)).heap.size = wr.heap.size by simp] at this
          exact this
        · repeat (first | exact QW.out | refine Below.setCell ?_ (by first | omega | (simp <;> omega)) _ | refine Below.alloc ?_ (by first | omega | (simp <;> omega)) _)
      obtain ⟨b, o, a3, c3, ha, _, hbl, d0, d1, r3⟩ := G.TdRow.cells (HS.out _ HL.out.be) k hlt
      obtain ⟨b', o', a3', c3', ha', _, hbl', d0', d1', r3'⟩ := G.TdRow.cells HSW.out k hlt
      subst ha
      simp only [Option.some.injEq, Addr.mk.injEq, and_true] at ha'
      obtain ⟨rfl, rfl⟩ := ha'
      have e1 := (HL.out.be.cell (p := ⟨b, o + k * 2 + 1, none⟩) hbl).trans d1'
      have hsz : S[k].nm.size ≤ 1048576 := (HB.out.2 _ (List.getElem_mem hlt)).1
      have R3 : Hid (G.FdRow 0 w.heap.size w a3' S[k].fs) := r3'
      have c0 := row_cell HL.out.ce 0
      have p0 := fun ob => (((Below.refl wr.heap.size wr).alloc (Nat.le_refl _) ob).cell (p := ⟨Bc, 0, none⟩) (show Bc < wr.heap.size by omega)).trans c0
      have HNO : Hid (hasT (S.take k) S[k].nm = false) := hasT_no HO.out hlt
      have HTK : Hid (S.take (k + 1) = S.take k ++ [S[k]]) := List.take_succ_eq_append_getElem hlt
      have HLk : Hid ((S.take k).length ≤ 1048576) := by rw [Hid, List.length_take]; omega
      have hkey : keyOf Tryz.prog 9 (.string S[k].nm) = some (.string S[k].nm.toList) := key_of (by unfold maxLen; omega)
      have HLW : Hid (NewL w wr (S.take k) D Bt Bf Bc) := HL.out
      generalize S.take k = L at *
      obtain ⟨E, n, hown, hn1, hn3, hn4⟩ := HLW.out.ty
      have HP : Hid (∀ W', W'.ownsMap Tryz.prog 9 heldE Bt (n + 1) (E.put (.string S[k].nm.toList) (.held (.agg #[.string S[k].nm, .slice a3' S[k].fs.length c3']))) → TdHeld w W' Bt (L ++ [S[k]])) :=
        fun W' h => TdHeld.put hown.isMap HNO.out hn1 hn3 hn4 R3.out h
      have hnm : n < maxLen := by have := HLk.out; unfold maxLen; omega
      have HOW : Hid (∀ ob, (wr.alloc ob).ownsMap Tryz.prog 9 heldE Bt n E) := fun ob => hown.alloc ob
      clear d1 r3 d0' d1' r3' c0 HL L0 hown hn1 hn3 hn4
      go_wp2_with (first
        | (at_mapUpdate; refine wpList_mapUpdate_in _ rfl _ _ _ 92 rfl 9 64 law9 Tryz.underlying92 heldE Bt n E rfl (HOW.out _) hnm _ _ _ rfl rfl hkey _ [] rfl ?_; intro w8 hown8 hturn)
        | fail)
      have hgr := hturn.grown
      have B8 : ∀ g, g < wr.heap.size → g ≠ Bt → w8.heap[g]? = wr.heap[g]? := fun g h1 h2 => (hgr.block g (by simp; omega) (by simpa using h2)).trans (Below.heap_alloc _ _ _ h1)
      obtain ⟨m1, m2, m3⟩ := HLW.out.ne
      obtain ⟨v1, v2, v3⟩ := HLW.out.ge
      have L8 : Hid (NewL w w8 (S.take (k + 1)) D Bt Bf Bc) := by
        rw [HTK.out]
        refine ⟨HLW.out.ne, HLW.out.ge, HP.out _ hown8, ?_, (B8 Bc l3 (Ne.symm m2)).trans HLW.out.ce, (B8 _ (by omega) (by omega)).trans HLW.out.rs, ?_⟩
        · obtain ⟨w1, hf⟩ := HLW.out.fr; exact ⟨w1, hf.keep (B8 _ hf.lt (Ne.symm m1))⟩
        · exact (HLW.out.be.alloc (by have := HLW.out.be.size; omega) _).grown hgr (by have := HLW.out.be.size; simp; omega) (fun j hj => by simp at hj; omega)
      clear hown8 hturn hgr B8
      go_wp2_with fail
      exact ⟨⟨k + 1, by omega, by go_num, L8⟩, by simp [intOf]; omega⟩
end Go.Proofs.YtminemocpliapaaGreat
