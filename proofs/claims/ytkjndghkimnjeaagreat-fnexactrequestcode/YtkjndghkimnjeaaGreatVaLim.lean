/- Limits: how many selections are left, the specification's way. -/
import Derived.Test.YtkjndghkimnjeaaGreatVaApp
import Derived.Test.YtkjndghkimnjeaaGreatGRegionFive
namespace Go.Proofs.YtkjndghkimnjeaaGreat
open Go.ChangeShapes Go.WideShapes Go.ChangeAt Go.RowKit
set_option linter.unusedVariables false

/-- Where each definition's selections lie. -/
def DocAc (w0 : World) (a : Option Addr) (l : List De) (ac : Nat → Option Addr × Nat) : Prop := ∀ j (h : j < l.length), ∃ b o, a = some ⟨b, o, none⟩ ∧ b < w0.heap.size ∧ w0.cell? ⟨b, o + j * 4, none⟩ = some (.int .i64 l[j].k) ∧ w0.cell? ⟨b, o + j * 4 + 1, none⟩ = some (.string l[j].nm) ∧ w0.cell? ⟨b, o + j * 4 + 2, none⟩ = some (.string l[j].on) ∧ w0.cell? ⟨b, o + j * 4 + 3, none⟩ = some (.slice (ac j).1 l[j].sels.len (ac j).2) ∧ SelRow 0 w0.heap.size w0 (ac j).1 l[j].sels
theorem docAc {w0 : World} {a : Option Addr} {l : List De} (h : DeRow 0 w0.heap.size w0 a l) : ∃ ac, DocAc w0 a l ac := by
  have : ∀ j : Nat, ∃ p : Option Addr × Nat, ∀ h' : j < l.length, ∃ b o, a = some ⟨b, o, none⟩ ∧ b < w0.heap.size ∧ w0.cell? ⟨b, o + j * 4, none⟩ = some (.int .i64 l[j].k) ∧ w0.cell? ⟨b, o + j * 4 + 1, none⟩ = some (.string l[j].nm) ∧ w0.cell? ⟨b, o + j * 4 + 2, none⟩ = some (.string l[j].on) ∧ w0.cell? ⟨b, o + j * 4 + 3, none⟩ = some (.slice p.1 l[j].sels.len p.2) ∧ SelRow 0 w0.heap.size w0 p.1 l[j].sels := by
    intro j
    by_cases hj : j < l.length
    · obtain ⟨b, o, a3, c3, ha, _, hbl, d0, d1, d2, d3, r3⟩ := DeRow.cells h j hj
      exact ⟨(a3, c3), fun _ => ⟨b, o, ha, hbl, d0, d1, d2, d3, r3⟩⟩
    · exact ⟨(none, 0), fun h' => absurd h' hj⟩
  exact ⟨fun j => Classical.choose (this j), fun j hj => Classical.choose_spec (this j) hj⟩
def frIx (l : List De) (n : ByteArray) : Nat := l.findIdx (isFr n)
def frD (l : List De) (n : ByteArray) : De := (l.find? (isFr n)).getD de0
def frAd (l : List De) (ac : Nat → Option Addr × Nat) (n : ByteArray) : Option Addr × Nat := if frIx l n < l.length then ac (frIx l n) else (none, 0)
theorem frD_sels (l : List De) (n : ByteArray) : (frD l n).sels = frS l n := by
  unfold frD frS
  cases l.find? (isFr n) <;> rfl
theorem findIdx_at {p : De → Bool} : ∀ {l : List De} {k : Nat} (hk : k < l.length), (∀ x ∈ l.take k, p x = false) → p l[k] = true → l.findIdx p = k
  | [], k, hk, _, _ => by simp at hk
  | x :: l, 0, hk, _, h => by
    have h : p x = true := h
    simp [List.findIdx_cons, h]
  | x :: l, k + 1, hk, ha, h => by
    have hx : p x = false := ha x (by simp)
    have := findIdx_at (l := l) (k := k) (by simpa using hk) (fun y hy => ha y (by simp [hy])) (by simpa using h)
    simp [List.findIdx_cons, hx, this]
theorem frAd_at {l : List De} {ac : Nat → Option Addr × Nat} {n : ByteArray} {k : Nat} (hk : k < l.length) (ha : ∀ x ∈ l.take k, isFr n x = false) (h : isFr n l[k] = true) : frAd l ac n = ac k ∧ frD l n = l[k] := by
  have e := findIdx_at hk ha h
  unfold frAd frIx frD
  rw [e, if_pos hk, find_at hk ha h]
  exact ⟨rfl, rfl⟩
theorem frAd_no {l : List De} {ac : Nat → Option Addr × Nat} {n : ByteArray} (ha : ∀ x ∈ l, isFr n x = false) : frAd l ac n = (none, 0) ∧ frD l n = de0 := by
  unfold frAd frIx frD
  rw [find_no ha, if_neg (by rw [List.findIdx_lt_length]; rintro ⟨x, hx, h⟩; rw [ha x hx] at h; cases h)]
  exact ⟨rfl, rfl⟩
theorem frag_row {w0 : World} {a : Option Addr} {l : List De} {ac : Nat → Option Addr × Nat} (h : DocAc w0 a l ac) (n : ByteArray) : SelRow 0 w0.heap.size w0 (frAd l ac n).1 (frS l n) := by
  by_cases hn : ∃ x ∈ l, isFr n x = true
  · have hi : l.findIdx (isFr n) < l.length := List.findIdx_lt_length.2 hn
    obtain ⟨_, _, _, _, _, _, _, _, r⟩ := h _ hi
    have hx : l.find? (isFr n) = some l[l.findIdx (isFr n)] := by
      refine find_at hi (fun x hx => ?_) (List.findIdx_getElem (w := hi))
      obtain ⟨j, hj, rfl⟩ := List.getElem_of_mem hx
      rw [List.length_take] at hj
      rw [List.getElem_take]
      have := List.not_of_lt_findIdx (p := isFr n) (xs := l) (i := j) (by omega)
      simpa using this
    unfold frAd frIx frS
    rw [if_pos hi, hx]
    exact r
  · have : l.find? (isFr n) = none := find_no fun x hx => by
      cases hc : isFr n x with
      | false => rfl
      | true => exact absurd ⟨x, hx, hc⟩ hn
    unfold frS
    rw [this]
    exact .inl rfl
def frV (l : List De) (ac : Nat → Option Addr × Nat) (n : ByteArray) : Value := .agg #[.int .i64 (frD l n).k, .string (frD l n).nm, .string (frD l n).on, .slice (frAd l ac n).1 (frS l n).len (frAd l ac n).2]
def frB (l : List De) (n : ByteArray) : Bool := (l.find? (isFr n)).isSome
set_option maxHeartbeats 4000000 in
set_option maxRecDepth 40000 in
theorem spec_frag (w0 : World) (a : Option Addr) (c : Nat) (l : List De) (ac : Nat → Option Addr × Nat) (s : ByteArray) (w : World) (hac : DocAc w0 a l ac) (hl : l.length ≤ 1048576) (hb0 : Below w0.heap.size w0 w) :
    Calls Tryz.prog 79 #[.agg #[.slice a l.length c], .string s] w fun e w' => e = .returned (.tuple #[frV l ac s, .bool (frB l s)]) ∧ Below w.heap.size w w' := by
  have HC : Hid (DocAc w0 a l ac) := hac
  have HB0 : Hid (Below w0.heap.size w0 w) := hb0
  clear hac hb0
  obtain ⟨V, HV⟩ : ∃ V, Hid (V = frV l ac s) := ⟨_, rfl⟩
  obtain ⟨F, HFB⟩ : ∃ F, Hid (F = frB l s) := ⟨_, rfl⟩
  rw [← HV.out, ← HFB.out]
  go_enter Tryz.func79, Tryz.ntmps79
  go_wp2_with fail
  obtain ⟨W, hW⟩ : ∃ W, W = (w.alloc (.cells #[.slice a l.length c] 33)).alloc (.cells #[.int .i64 0, .string ⟨#[]⟩, .string ⟨#[]⟩, .slice none 0 0] 78) := ⟨_, rfl⟩
  rw [← hW]
  have B0 : Below w.heap.size w W := by rw [hW]; exact ((Below.refl _ _).alloc (Nat.le_refl _) _).alloc (by simp) _
  have zW : W.heap.size = w.heap.size + 2 := by rw [hW]; simp
  have kW : ∀ o, W.cell? ⟨w.heap.size, o, none⟩ = (#[.slice a l.length c] : Array Value)[o]? := fun o => by
    rw [hW]
    refine (((Below.refl _ _).alloc (Nat.le_refl _) _).cell (p := ⟨w.heap.size, o, none⟩) (by simp)).trans (row_cell (heap_alloc_new _ _) o)
  have HJ : Hid (W.heap[w.heap.size + 1]? = some (.cells #[.int .i64 0, .string ⟨#[]⟩, .string ⟨#[]⟩, .slice none 0 0] 78 (0, 0))) := by
    unfold Hid
    rw [hW]
    have := heap_alloc_new (w.alloc (.cells #[.slice a l.length c] 33)) (.cells #[.int .i64 0, .string ⟨#[]⟩, .string ⟨#[]⟩, .slice none 0 0] 78)
    simpa using this
  clear hW
  go_loopw [6] (fun i w' => ∃ (k : Nat), k ≤ l.length ∧ i = .int .i64 k ∧ Below W.heap.size W w' ∧ Hid (∀ x ∈ l.take k, isFr s x = false)) (fun i _ => l.length - (intOf i).toNat)
  case atStart => exact ⟨0, by omega, rfl, Below.refl _ _, by simp [Hid]⟩
  case round =>
    obtain ⟨k, hk, rfl, hbw, HA⟩ := hrel
    have hbz := hbw.size
    have ks : wr.cell? ⟨w.heap.size, 0, none⟩ = some (.slice a l.length c) := (hbw.cell (p := ⟨w.heap.size, 0, none⟩) (show w.heap.size < W.heap.size by omega)).trans (kW 0)
    have HJr : Hid (wr.heap[w.heap.size + 1]? = _) := (hbw.block _ (by omega)).trans HJ.out
    have kr := fun o => row_cell HJr.out o
    have jr := fun o => row_frozen HJr.out o
    have Qr : Hid (Below w.heap.size w wr) := B0.trans (hbw.mono (by omega))
    have Q0 : Hid (Below w0.heap.size w0 wr) := HB0.out.trans (Qr.out.mono HB0.out.size)
    have HBW : Hid _ := hbw
    by_cases hlt : k < l.length
    case neg =>
      have HN : Hid (V = .agg #[.int .i64 0, .string ⟨#[]⟩, .string ⟨#[]⟩, .slice none 0 0] ∧ F = false) := by
        have h1 : ∀ x ∈ l, isFr s x = false := by have := HA.out; rwa [List.take_of_length_le (by omega)] at this
        obtain ⟨e1, e2⟩ := frAd_no (ac := ac) h1
        refine ⟨?_, ?_⟩
        · rw [HV.out]; unfold frV; rw [← frD_sels, e1, e2]; rfl
        · rw [HFB.out]; unfold frB; rw [find_no h1]; rfl
      clear hbw
      go_wp2_with fail
      refine bodyPost_ret (v := .tuple #[.agg #[.int .i64 0, .string ⟨#[]⟩, .string ⟨#[]⟩, .slice none 0 0], .bool false]) (by simp [results, Tryz.results79, go_sem, kr]) rfl ⟨by rw [HN.out.1, HN.out.2], ?_⟩
      repeat (first | exact Qr.out | refine Below.setCell ?_ (by first | omega | (simp <;> omega)) _ | refine Below.alloc ?_ (by first | omega | (simp <;> omega)) _)
    obtain ⟨b, o, ha, hbl, d0, d1, d2, d3, _⟩ := HC.out k hlt
    subst ha
    replace d0 := (Q0.out.cell (p := ⟨b, o + k * 4, none⟩) hbl).trans d0
    replace d1 := (Q0.out.cell (p := ⟨b, o + k * 4 + 1, none⟩) hbl).trans d1
    replace d2 := (Q0.out.cell (p := ⟨b, o + k * 4 + 2, none⟩) hbl).trans d2
    replace d3 := (Q0.out.cell (p := ⟨b, o + k * 4 + 3, none⟩) hbl).trans d3
    clear hbw
    cases h3 : (l[k].k == 3) with
    | false =>
      have HF : Hid (isFr s l[k] = false) := by unfold Hid isFr; rw [h3]; rfl
      go_wp2_with fail
      exact ⟨⟨k + 1, by omega, by go_num, HBW.out, isFr_take hlt HA.out HF.out⟩, by simp [intOf]; omega⟩
    | true =>
    cases h4 : (l[k].nm.toList == s.toList) with
    | false =>
      have HF : Hid (isFr s l[k] = false) := by unfold Hid isFr; rw [h3, h4]; rfl
      go_wp2_with fail
      exact ⟨⟨k + 1, by omega, by go_num, HBW.out, isFr_take hlt HA.out HF.out⟩, by simp [intOf]; omega⟩
    | true =>
    have HF : Hid (V = .agg #[.int .i64 l[k].k, .string l[k].nm, .string l[k].on, .slice (ac k).1 l[k].sels.len (ac k).2] ∧ F = true) := by
      have h5 : isFr s l[k] = true := by unfold isFr; rw [h3, h4]; rfl
      obtain ⟨e1, e2⟩ := frAd_at (ac := ac) hlt HA.out h5
      refine ⟨?_, ?_⟩
      · rw [HV.out]; unfold frV; rw [← frD_sels, e1, e2]
      · rw [HFB.out]; unfold frB; rw [find_at hlt HA.out h5]; rfl
    go_wp2_with fail
    refine bodyPost_ret (v := .tuple #[.agg #[.int .i64 l[k].k, .string l[k].nm, .string l[k].on, .slice (ac k).1 l[k].sels.len (ac k).2], .bool true]) (by simp [results, Tryz.results79, go_sem, kr]) rfl ⟨by rw [HF.out.1, HF.out.2], ?_⟩
    repeat (first | exact Qr.out | refine Below.setCell ?_ (by first | omega | (simp <;> omega)) _ | refine Below.alloc ?_ (by first | omega | (simp <;> omega)) _)

/-- Where such a region stands: iA makes the variable (slot sA), iS stores into it. -/
structure FgJ (w9 : World) (e : TypeId) (sA iA iS : Nat) (fz fv : Array Value) (D : Array Bool) (u : Nat → Value) (W : World) : Prop where
  below : Below w9.heap.size w9 W
  at_ : D.getD iA false = true → ∃ y, u sA = .pointer (some ⟨y, 0, none⟩) ∧ w9.heap.size ≤ y ∧ y < W.heap.size ∧ (D.getD iS false = false → W.heap[y]? = some (.cells fz e (0, 0))) ∧ (D.getD iS false = true → W.heap[y]? = some (.cells fv e (0, 0)))
  ord : D.getD iS false = true → D.getD iA false = true
theorem gD_ne {L : Array Bool} {i j : Nat} (h : i ≠ j) : (L.setIfInBounds i true).getD j false = L.getD j false := by
  simp only [Array.getD_eq_getD_getElem?, Array.getElem?_setIfInBounds_ne h]
theorem gD_at {L : Array Bool} {i : Nat} (h : i < L.size) : (L.setIfInBounds i true).getD i false = true := by
  simp [h]
theorem gD_no {L : Array Bool} {i : Nat} (hi : i < L.size) (h : L.getD i true = false) : L.getD i false = false := by
  cases h8 : L.getD i false
  · rfl
  · rw [G.getD_both hi h8] at h; cases h
theorem FgJ.start {w9 : World} {e : TypeId} {sA iA iS m : Nat} {fz fv : Array Value} {u : Nat → Value} : FgJ w9 e sA iA iS fz fv (Array.replicate m false) u w9.drew :=
  ⟨(Below.refl _ _).drew, fun h => by
    by_cases hx : iA < m
    · simp [hx] at h
    · simp [hx] at h, fun h => by
    by_cases hx : iS < m
    · simp [hx] at h
    · simp [hx] at h⟩
/-- An operation that leaves the variable's block. -/
theorem FgJ.step {w9 : World} {e : TypeId} {sA iA iS : Nat} {fz fv : Array Value} {D : Array Bool} {u : Nat → Value} {W W' : World} (h : FgJ w9 e sA iA iS fz fv D u W) {i d : Nat} {val : Value} (h1 : i ≠ iA) (h2 : i ≠ iS) (h3 : sA ≠ d) (hb : Below W.heap.size W W') : FgJ w9 e sA iA iS fz fv (D.setIfInBounds i true) (G.upd u d val) W' := by
  refine ⟨h.below.trans (hb.mono h.below.size), ?_, by rw [gD_ne h1, gD_ne h2]; exact h.ord⟩
  rw [gD_ne h1, gD_ne h2, G.upd_ne _ _ h3]
  intro hA
  obtain ⟨y, q1, q2, q3, q4, q5⟩ := h.at_ hA
  exact ⟨y, q1, q2, Nat.lt_of_lt_of_le q3 hb.size, fun z => (hb.block y q3).trans (q4 z), fun z => (hb.block y q3).trans (q5 z)⟩
theorem FgJ.made {w9 : World} {e : TypeId} {sA iA iS : Nat} {fz fv : Array Value} {D : Array Bool} {u : Nat → Value} {W : World} (h : FgJ w9 e sA iA iS fz fv D u W) (h2 : iA ≠ iS) (hi : iA < D.size) (hl : D.getD iA true = false) : FgJ w9 e sA iA iS fz fv (D.setIfInBounds iA true) (G.upd u sA (.pointer (some ⟨W.heap.size, 0, none⟩))) (W.alloc (.cells fz e)) := by
  refine ⟨h.below.alloc h.below.size _, fun _ => ⟨W.heap.size, G.upd_at _ _ _, h.below.size, by simp, fun _ => heap_alloc_new _ _, ?_⟩, fun _ => gD_at hi⟩
  rw [gD_ne h2]
  intro hc
  have := h.ord hc
  rw [gD_no hi hl] at this
  cases this
theorem FgJ.stored {w9 : World} {e : TypeId} {sA iA iS : Nat} {fz fv : Array Value} {D : Array Bool} {u : Nat → Value} {W W' : World} (h : FgJ w9 e sA iA iS fz fv D u W) {d : Nat} {val : Value} (h2 : iA ≠ iS) (h3 : sA ≠ d) (hA : D.getD iA false = true) (hi : iS < D.size) {y : Nat} (hy : u sA = .pointer (some ⟨y, 0, none⟩)) (hb : ∀ g, g ≠ y → W'.heap[g]? = W.heap[g]?) (hz : W'.heap.size = W.heap.size) (hw : Below w9.heap.size w9 W') (hc : W'.heap[y]? = some (.cells fv e (0, 0))) : FgJ w9 e sA iA iS fz fv (D.setIfInBounds iS true) (G.upd u d val) W' := by
  refine ⟨hw, ?_, fun _ => by rw [gD_ne (Ne.symm h2)]; exact hA⟩
  rw [gD_ne (Ne.symm h2), gD_at hi, G.upd_ne _ _ h3]
  intro _
  obtain ⟨y', q1, q2, q3, _⟩ := h.at_ hA
  rw [hy] at q1
  simp only [Value.pointer.injEq, Option.some.injEq, Addr.mk.injEq, and_true] at q1
  subst q1
  exact ⟨y, hy, q2, by omega, fun hc => (by cases hc), fun _ => hc⟩
theorem heap_setV (w : World) (b o : Nat) (v : Value) (g : Nat) (h : g ≠ b) : (w.setCell ⟨b, o, none⟩ v).heap[g]? = w.heap[g]? := Below.heap_setCell _ _ _ _ h
theorem four_setV {w : World} {N : Nat} {e : TypeId} {c0 c1 c2 c3 v0 v1 v2 v3 : Value} (h : w.heap[N]? = some (.cells #[c0, c1, c2, c3] e (0, 0))) : ((((w.setCell ⟨N, 0, none⟩ v0).setCell ⟨N, 1, none⟩ v1).setCell ⟨N, 2, none⟩ v2).setCell ⟨N, 3, none⟩ v3).heap[N]? = some (.cells #[v0, v1, v2, v3] e (0, 0)) := by
  have := row_set (row_set (row_set (row_set h 0 v0) 1 v1) 2 v2) 3 v3
  simpa using this
end Go.Proofs.YtkjndghkimnjeaaGreat
namespace Go.Proofs.YtkjndghkimnjeaaGreat
open Go.ChangeShapes Go.WideShapes Go.ChangeAt Go.RowKit
set_option linter.unusedVariables false

/-- Bounds of a list of selections. -/
def LB (s : List (Hd × Sels)) : Prop := s.length ≤ 1048576 ∧ ∀ x ∈ s, HdBd 1048576 x.1 ∧ x.2.len ≤ 1048576 ∧ SelsBd 1048576 x.2
theorem SelsBd.mem : ∀ {s : Sels}, SelsBd 1048576 s → ∀ x ∈ toL s, HdBd 1048576 x.1 ∧ x.2.len ≤ 1048576 ∧ SelsBd 1048576 x.2
  | .nil, _, x, hx => by simp [toL] at hx
  | .cons h sub rest, hs, x, hx => by
    rcases List.mem_cons.1 hx with rfl | hx
    · exact ⟨hs.1, hs.2.1, hs.2.2.1⟩
    · exact SelsBd.mem hs.2.2.2 x hx
theorem SelsBd.lb {s : Sels} (h : SelsBd 1048576 s) (hl : s.len ≤ 1048576) : LB (toL s) := ⟨by rw [toL_len]; exact hl, h.mem⟩
theorem LB.inS {l : List De} (hd : DefsBd 1048576 l) {x : Hd × Sels} (h : x.2.len ≤ 1048576 ∧ SelsBd 1048576 x.2) : LB (toL (inS l x)) ∧ (Go.Proofs.YtkjndghkimnjeaaGreat.inS l x).len ≤ 1048576 := by
  unfold Go.Proofs.YtkjndghkimnjeaaGreat.inS frS
  split
  · split
    · exact ⟨⟨by simp [toL], fun x hx => by simp [toL] at hx⟩, Nat.zero_le _⟩
    · rename_i y hy
      have := hd.2 y (List.mem_of_find?_eq_some hy)
      exact ⟨SelsBd.lb this.2.2.2 this.2.2.1, this.2.2.1⟩
  · exact ⟨SelsBd.lb h.2 h.1, h.1⟩
def bitN (b : Bool) : Int := if b then 1 else 0
theorem spec_bitV (b : Bool) (w : World) : Calls Tryz.prog 108 #[.bool b] w fun e w' => e = .returned (.int .i64 (bitN b)) ∧ w' = w := by
  cases b
  · go_enter Tryz.func108, Tryz.ntmps108
    go_wp2_with fail
    go_ret
    exact ⟨rfl, rfl⟩
  · go_enter Tryz.func108, Tryz.ntmps108
    go_wp2_with fail
    go_ret
    exact ⟨rfl, rfl⟩
/-- What l04Left tells. -/
def LeftP (w0 : World) (a : Option Addr) (c : Nat) (l : List De) (n : Nat) : Prop := ∀ (s : List (Hd × Sels)) (a1 : Option Addr) (c1 : Nat) (d : Nat) (w : World), d ≤ 12 → FRow w0 0 w.heap.size w a1 s → Below w0.heap.size w0 w → LB s →
    Calls Tryz.prog 81 #[.agg #[.slice a l.length c], .slice a1 s.length c1, .int .i64 ((12 : Int) - d), .int .i64 ((400 : Int) - n)] w fun e w' => (∃ (y : Int) (m : Nat), Lim l s d n y m ∧ e = .returned (.tuple #[.int .i64 ((400 : Int) - m), .bool (y != 8)])) ∧ Below w.heap.size w w'
/-- Where the loop stands. -/
def LimTo (l : List De) (s : List (Hd × Sels)) (d n k m : Nat) : Prop := (m ≤ 400 ∧ ∀ y m', Lim l (s.drop k) d m y m' → Lim l s d n y m') ∨ (m = 401 ∧ Lim l s d n 6 401)
set_option maxHeartbeats 8000000 in
set_option maxRecDepth 40000 in
theorem spec_left (w0 : World) (a : Option Addr) (c : Nat) (l : List De) (ac : Nat → Option Addr × Nat) (hac : DocAc w0 a l ac) (hdb : DefsBd 1048576 l) (n : Nat) (hn : n ≤ 400) : LeftP w0 a c l n := by
  induction hN : 400 - n using Nat.strongRecOn generalizing n with
  | _ N ih =>
  subst hN
  intro s a1 c1 d w hd hr hb0 hlb
  have IH : Hid (∀ n', n < n' → n' ≤ 400 → LeftP w0 a c l n') := fun n' h1 h2 => ih (400 - n') (by omega) n' h2 rfl
  have HC : Hid (DocAc w0 a l ac) := hac
  have HDB : Hid (DefsBd 1048576 l) := hdb
  have HLB : Hid (LB s) := hlb
  have hsl : s.length ≤ 1048576 := hlb.1
  have hll : l.length ≤ 1048576 := hdb.1
  obtain ⟨V, hV⟩ : ∃ V, V = w.alloc (.cells #[.slice a l.length c] 33) := ⟨_, rfl⟩
  have bV : Below w.heap.size w V := by rw [hV]; exact (Below.refl _ _).alloc (Nat.le_refl _) _
  have c0 : V.heap[w.heap.size]? = some (.cells #[.slice a l.length c] 33 (0, 0)) := by rw [hV]; exact heap_alloc_new _ _
  have z0 := (Array.getElem?_eq_some_iff.1 c0).1
  have T : Hid (∀ W, Below V.heap.size V W → W.heap[w.heap.size]? = some (.cells #[.slice a l.length c] 33 (0, 0)) ∧ FRow w0 0 W.heap.size W a1 s ∧ Below w0.heap.size w0 W ∧ Below w.heap.size w W) := fun W hW =>
    have hw := bV.trans (hW.mono bV.size)
    ⟨(hW.block _ z0).trans c0, Row.up hr hw, hb0.trans (hw.mono hb0.size), hw⟩
  obtain ⟨dn, hdn⟩ : ∃ dn : Int, Hid (dn = 12 - d) := ⟨_, rfl⟩
  obtain ⟨lf, hlf⟩ : ∃ lf : Int, Hid (lf = 400 - n) := ⟨_, rfl⟩
  rw [← hdn.out, ← hlf.out]
  have hdn0 : 0 ≤ dn := by rw [hdn.out]; omega
  have hdn1 : dn ≤ 12 := by rw [hdn.out]; omega
  clear hr ih hac hdb hlb hb0 c0 bV
  go_enter Tryz.func81, Tryz.ntmps81
  go_upto_region 1 with fail
  rw [← hV]
  clear hV
  go_cut [23] from 17 to 23 (fun u wx => u = .bool ((dn == 0) && decide (0 < s.length)) ∧ wx = V)
  case first =>
    cases hb : (dn == 0) with
    | true =>
      have : dn = 0 := by simpa using hb
      subst this
      go_wp2_with fail
      go_meet
      exact ⟨by simp, rfl⟩
    | false =>
      go_wp2_with fail
      go_meet
      exact ⟨by rw [hb]; rfl, rfl⟩
  obtain ⟨rfl, rfl⟩ := hcut
  cases hdeep : ((dn == 0) && decide (0 < s.length)) with
  | true =>
    have HE : Hid (Lim l s d n 8 n) := by
      simp only [Bool.and_eq_true, beq_iff_eq, decide_eq_true_eq] at hdeep
      have := hdn.out
      cases hs : s with
      | nil => rw [hs] at hdeep; simp at hdeep
      | cons x r => exact .deep (by omega)
    have GB : Hid _ := (T.out _ (Below.refl _ _)).2.2.2
    go_wp2_with fail
    go_ret2
    exact ⟨⟨8, n, HE.out, by rw [← hlf.out]; rfl⟩, GB.out⟩
  | false =>
  have HNO : Hid (0 < s.length → d ≤ 11) := fun h => by
    rw [decide_eq_true h, Bool.and_true, beq_eq_false_iff_ne] at hdeep
    have := hdn.out
    omega
  clear hdeep
  go_wp2_with fail
  obtain ⟨WV, rfl⟩ : ∃ x, x = wc := ⟨_, rfl⟩
  go_loopw [3, 10] (fun v i w' => ∃ (k m : Nat), v = .int .i64 ((400 : Int) - m) ∧ i = .int .i64 k ∧ k ≤ s.length ∧ n ≤ m ∧ m ≤ 401 ∧ Hid (Below WV.heap.size WV w') ∧ Hid (LimTo l s d n k m)) (fun _ i _ => s.length - (intOf i).toNat)
  case atStart => exact ⟨0, n, by rw [hlf.out], rfl, Nat.zero_le _, Nat.le_refl _, by omega, Below.refl _ _, .inl ⟨hn, fun y m' h => by simpa using h⟩⟩
  case round =>
    obtain ⟨k, m, rfl, rfl, hk, hnm, hm, HBW, HT⟩ := hrel
    have TW : Hid _ := T.out _ HBW.out
    have GB : Hid (Below w.heap.size w wr) := TW.out.2.2.2
    by_cases hm4 : m = 401
    · subst hm4
      have HE : Hid (Lim l s d n 6 401) := by
        rcases HT.out with h | h
        · omega
        · exact h.2
      by_cases hlt : k < s.length
      · have hlt' : (k : Int) < s.length := by omega
        go_wp2_with fail
        go_ret2
        exact ⟨⟨6, 401, HE.out, rfl⟩, GB.out⟩
      · have hlt' : ¬ (k : Int) < s.length := by omega
        go_wp2_with fail
        go_ret2
        exact ⟨⟨6, 401, HE.out, rfl⟩, GB.out⟩
    have hm5 : m ≤ 400 := by omega
    have HTO : Hid (∀ y m', Lim l (s.drop k) d m y m' → Lim l s d n y m') := by
      rcases HT.out with h | h
      · exact h.2
      · omega
    clear HT hm hm4
    by_cases hlt : k < s.length
    case neg =>
      have hlt' : ¬ (k : Int) < s.length := by omega
      have HE : Hid (Lim l s d n 0 m) := HTO.out 0 m (by rw [List.drop_of_length_le (by omega)]; exact .nil)
      clear HTO
      go_wp2_with fail
      go_ret2
      exact ⟨⟨0, m, HE.out, rfl⟩, GB.out⟩
    have hlt' : (k : Int) < s.length := by omega
    have hge : (0 : Int) ≤ 400 - m := by omega
    have HDR : Hid (s.drop k = s[k] :: s.drop (k + 1)) := List.drop_eq_getElem_cons hlt
    have hd11 : d ≤ 11 := HNO.out (by omega)
    obtain ⟨b, o, b1, e1, b2, e2, b3, e3, ha, hbl, d0, d1, d2, d3, d4, d5, _, _, _, r3⟩ := FRow.cells TW.out.2.1 k hlt
    subst ha
    have HR3 : Hid (SelRow 0 w0.heap.size w0 b3 s[k].2) := r3
    have HXB : Hid (HdBd 1048576 s[k].1 ∧ s[k].2.len ≤ 1048576 ∧ SelsBd 1048576 s[k].2) := HLB.out.2 _ (List.getElem_mem hlt)
    have x0 := fun o => row_cell TW.out.1 o
    clear r3
    by_cases hmany : m = 400
    · subst hmany
      have HE : Hid (Lim l s d n 6 401) := HTO.out 6 401 (by rw [HDR.out]; exact .many hd11 (Nat.le_refl _))
      clear HTO HDR
      go_wp2_with fail
      go_ret2
      exact ⟨⟨6, 401, HE.out, rfl⟩, GB.out⟩
    have hm3 : m < 400 := by omega
    have hw1 : ¬ ((400 : Int) - m - 1 < 0) := by omega
    have HSUB : Hid (∀ y q, Lim l (toL (inS l s[k])) (d + if (s[k].1.k == 1) = true then 1 else 0) (m + 1) y q → y ≠ 0 → Lim l s d n y q) := fun y q h hy => HTO.out y q (by rw [HDR.out]; exact .bad hd11 hm3 h hy)
    have HNXT : Hid (∀ q, Lim l (toL (inS l s[k])) (d + if (s[k].1.k == 1) = true then 1 else 0) (m + 1) 0 q → ∀ y m', Lim l (s.drop (k + 1)) d q y m' → Lim l s d n y m') := fun q h y m' h' => HTO.out y m' (by rw [HDR.out]; exact .ok hd11 hm3 h h')
    obtain ⟨x, hx⟩ : ∃ x, x = s[k] := ⟨_, rfl⟩
    rw [← hx] at d0 d1 d2 d3 d4 d5 HR3 HXB HSUB HNXT
    clear HTO HDR hx
    obtain ⟨dd, hdd⟩ : ∃ dd : Int, Hid (dd = dn - bitN (x.1.k == 1)) := ⟨_, rfl⟩
    have hbn : 0 ≤ bitN (x.1.k == 1) ∧ bitN (x.1.k == 1) ≤ 1 := by unfold bitN; split <;> omega
    have hbn0 := hbn.1
    have hbn1 := hbn.2
    clear hbn
    generalize hBN : bitN (x.1.k == 1) = bn at *
    have HBN : Hid (bitN (x.1.k == 1) = bn) := hBN
    clear hBN
    have hdd0 : -1 ≤ dd ∧ dd ≤ 12 := by rw [hdd.out]; omega
    have HDC : Hid _ := TW.out.1
    have HW0 : Hid (Below w0.heap.size w0 wr) := TW.out.2.2.1
    have hzw : w.heap.size < wr.heap.size := by have := HBW.out.size; omega
    go_upto_if 59 with (first | (go_at_call 108; refine (spec_bitV _ _).mono ?_; rintro e y9 ⟨rfl, hw9⟩; have hw8 := hw9.symm; clear hw9; subst hw8; rw [HBN.out]) | fail)
    rw [← hdd.out]
    go_cut [11, 13, 14] from 25 to 83 (fun nx p q wx => ∃ bx cx, nx = .slice bx (inS l x).len cx ∧ Hid (SelRow 0 w0.heap.size w0 bx (inS l x)) ∧ Hid (Below wr.heap.size wr wx))
    case first =>
      cases hk2 : (x.1.k == 2) with
      | true =>
        have HIN : Hid (inS l x = frS l x.1.nm) := by unfold Hid inS; rw [if_pos hk2]
        go_upto_region 12 with fail
        refine G.region_rel5 (n := 12) (k := 1) (by omega) (by kernel_rfl) (by kernel_rfl) (by kernel_rfl) (fun u => ⟨#[.agg #[.slice a l.length c], .slice (some ⟨b, o, none⟩) s.length c1, .int .i64 dn, .int .i64 (400 - m - 1), .pointer (some ⟨w.heap.size, 0, none⟩), undef, undef, undef, u8, u9, .int .i64 k, .slice b3 x.2.len e3, .int .i64 dd, u 13, u 14, u15, u16, u17, u18, u19, u20, u21, u22, .bool false, undef, .int .i64 k, .slice (some ⟨b, o, none⟩) s.length c1, .int .i64 s.length, .bool true, .bool true, .int .i64 (400 - m), .bool true, .bool true, u33, u34, .int .i64 (400 - m), .int .i64 (400 - m - 1), .int .i64 (400 - m - 1), .bool false, u39, .slice (some ⟨b, o, none⟩) s.length c1, .int .i64 k, .pointer (some ⟨b, o + k * 6, none⟩), .pointer (some ⟨b, o + k * 6 + 5, none⟩), .slice b3 x.2.len e3, .int .i64 dn, .slice (some ⟨b, o, none⟩) s.length c1, .int .i64 k, .pointer (some ⟨b, o + k * 6, none⟩), .pointer (some ⟨b, o + k * 6, none⟩), .int .i64 x.1.k, .bool (x.1.k == 1), .int .i64 bn, .int .i64 dd, .slice (some ⟨b, o, none⟩) s.length c1, .int .i64 k, .pointer (some ⟨b, o + k * 6, none⟩), .pointer (some ⟨b, o + k * 6, none⟩), .int .i64 x.1.k, .bool true, u 60, u 61, u 62, u 63, u 64, u 65, u 66, u 67, u 68, u 69, u70, u71, u72, u73, u74, u75, u76, u77, u78, u79, u80, u81, u82, u83, undef], []⟩) (fun n => match n with | 61 => u61 | 62 => u62 | 63 => u63 | 64 => u64 | 65 => u65 | 66 => u66 | 67 => u67 | 60 => u60 | 68 => u68 | 69 => u69 | 13 => u13 | 14 => u14 | _ => undef) (fun i => [61, 62, 63, 64, 65, 66, 67, 60, 68, 69, 13, 99].getD i 0) (fun i j hi hj h => (by decide : ∀ i, i < 12 → ∀ j, j < 12 → [61, 62, 63, 64, 65, 66, 67, 60, 68, 69, 13, 99].getD i 0 = [61, 62, 63, 64, 65, 66, 67, 60, 68, 69, 13, 99].getD j 0 → i = j) i hi j hj h)
          (fun i v _ => match i with | 0 => v = .agg #[.slice a l.length c] | 1 => v = .slice (some ⟨b, o, none⟩) s.length c1 | 2 => v = .int .i64 k | 3 => v = .pointer (some ⟨b, o + k * 6, none⟩) | 4 => v = .pointer (some ⟨b, o + k * 6 + 2, none⟩) | 5 => v = .string x.1.nm | 6 => v = .tuple #[frV l ac x.1.nm, .bool (frB l x.1.nm)] | 7 => v = .tuple #[frV l ac x.1.nm, .bool (frB l x.1.nm)] | 8 => v = frV l ac x.1.nm | 9 => v = .bool (frB l x.1.nm) | _ => True) (FgJ wr 78 13 10 11 #[.int .i64 0, .string ⟨#[]⟩, .string ⟨#[]⟩, .slice none 0 0] #[.int .i64 (frD l x.1.nm).k, .string (frD l x.1.nm).nm, .string (frD l x.1.nm).on, .slice (frAd l ac x.1.nm).1 (frS l x.1.nm).len (frAd l ac x.1.nm).2]) FgJ.start ?step ?last
        case step =>
          intro D u W i hi hLs hLi hj hdep
          have hbW : Below wr.heap.size wr W := hj.below
          have y0 := fun o => row_cell ((hbW.block _ hzw).trans HDC.out) o
          have y2 := (hbW.cell (p := ⟨b, o + k * 6 + 2, none⟩) hbl).trans d2
          have hcase : i = 0 ∨ i = 1 ∨ i = 2 ∨ i = 3 ∨ i = 4 ∨ i = 5 ∨ i = 6 ∨ i = 7 ∨ i = 8 ∨ i = 9 ∨ i = 10 ∨ i = 11 := by omega
          rcases hcase with rfl | rfl | rfl | rfl | rfl | rfl | rfl | rfl | rfl | rfl | rfl | rfl
          · have HJ : Hid _ := hj
            refine wpOp_step rfl (fun K hK => ?_)
            clear hdep hj
            go_simp
            exact hK _ _ ⟨.agg #[.slice a l.length c], by simp [G.upd], fun _ _ h => h, rfl, HJ.out.step (by decide) (by decide) (by decide) (Below.refl _ _)⟩
          · have HJ : Hid _ := hj
            refine wpOp_step rfl (fun K hK => ?_)
            clear hdep hj
            go_simp
            exact hK _ _ ⟨.slice (some ⟨b, o, none⟩) s.length c1, by simp [G.upd], fun _ _ h => h, rfl, HJ.out.step (by decide) (by decide) (by decide) (Below.refl _ _)⟩
          · have HJ : Hid _ := hj
            refine wpOp_step rfl (fun K hK => ?_)
            clear hdep hj
            go_simp
            exact hK _ _ ⟨.int .i64 k, by simp [G.upd], fun _ _ h => h, rfl, HJ.out.step (by decide) (by decide) (by decide) (Below.refl _ _)⟩
          · have d1 : u 62 = .slice (some ⟨b, o, none⟩) s.length c1 := (hdep _ rfl ⟨1, .data⟩ (by simp) rfl).2
            have d2 : u 63 = .int .i64 k := (hdep _ rfl ⟨2, .data⟩ (by simp) rfl).2
            have HJ : Hid _ := hj
            refine wpOp_step rfl (fun K hK => ?_)
            clear hdep hj
            go_simp
            exact hK _ _ ⟨.pointer (some ⟨b, o + k * 6, none⟩), by simp [G.upd, d1, d2], fun _ _ h => h, rfl, HJ.out.step (by decide) (by decide) (by decide) (Below.refl _ _)⟩
          · have d3 : u 64 = .pointer (some ⟨b, o + k * 6, none⟩) := (hdep _ rfl ⟨3, .data⟩ (by simp) rfl).2
            have HJ : Hid _ := hj
            refine wpOp_step rfl (fun K hK => ?_)
            clear hdep hj
            go_simp
            exact hK _ _ ⟨.pointer (some ⟨b, o + k * 6 + 2, none⟩), by simp [G.upd, d3], fun _ _ h => h, rfl, HJ.out.step (by decide) (by decide) (by decide) (Below.refl _ _)⟩
          · have d4 : u 65 = .pointer (some ⟨b, o + k * 6 + 2, none⟩) := (hdep _ rfl ⟨4, .data⟩ (by simp) rfl).2
            have HJ : Hid _ := hj
            refine wpOp_step rfl (fun K hK => ?_)
            clear hdep hj
            go_simp
            exact hK _ _ ⟨.string x.1.nm, by simp [G.upd, d4], fun _ _ h => h, rfl, HJ.out.step (by decide) (by decide) (by decide) (Below.refl _ _)⟩
          · have d0 : u 61 = .agg #[.slice a l.length c] := (hdep _ rfl ⟨0, .data⟩ (by simp) rfl).2
            have d5 : u 66 = .string x.1.nm := (hdep _ rfl ⟨5, .data⟩ (by simp) rfl).2
            have HJ : Hid _ := hj
            have HQ : Hid _ := spec_frag w0 a c l ac x.1.nm W HC.out hll (HW0.out.trans (hbW.mono HW0.out.size))
            refine wpOp_step rfl (fun K hK => ?_)
            clear hdep hj
            go_simp
            refine Calls.mono HQ.out ?_
            rintro e w8 ⟨rfl, hb8⟩
            exact hK _ _ ⟨.tuple #[frV l ac x.1.nm, .bool (frB l x.1.nm)], by simp [G.upd, d0, d5], fun _ _ h => h, rfl, HJ.out.step (by decide) (by decide) (by decide) hb8⟩
          · have d6 : u 67 = .tuple #[frV l ac x.1.nm, .bool (frB l x.1.nm)] := (hdep _ rfl ⟨6, .data⟩ (by simp) rfl).2
            have HJ : Hid _ := hj
            refine wpOp_step rfl (fun K hK => ?_)
            clear hdep hj
            go_simp
            exact hK _ _ ⟨.tuple #[frV l ac x.1.nm, .bool (frB l x.1.nm)], by simp [G.upd, d6], fun _ _ h => h, rfl, HJ.out.step (by decide) (by decide) (by decide) (Below.refl _ _)⟩
          · have d7 : u 60 = .tuple #[frV l ac x.1.nm, .bool (frB l x.1.nm)] := (hdep _ rfl ⟨7, .data⟩ (by simp) rfl).2
            have HJ : Hid _ := hj
            refine wpOp_step rfl (fun K hK => ?_)
            clear hdep hj
            go_simp
            exact hK _ _ ⟨frV l ac x.1.nm, by simp [G.upd, d7], fun _ _ h => h, rfl, HJ.out.step (by decide) (by decide) (by decide) (Below.refl _ _)⟩
          · have d7 : u 60 = .tuple #[frV l ac x.1.nm, .bool (frB l x.1.nm)] := (hdep _ rfl ⟨7, .data⟩ (by simp) rfl).2
            have HJ : Hid _ := hj
            refine wpOp_step rfl (fun K hK => ?_)
            clear hdep hj
            go_simp
            exact hK _ _ ⟨.bool (frB l x.1.nm), by simp [G.upd, d7], fun _ _ h => h, rfl, HJ.out.step (by decide) (by decide) (by decide) (Below.refl _ _)⟩
          · have HJ : Hid _ := hj
            have HL : Hid _ := hLi
            refine wpOp_step rfl (fun K hK => ?_)
            clear hdep hj
            go_simp
            exact hK _ _ ⟨_, rfl, fun _ _ h => h, trivial, FgJ.made HJ.out (by decide) (by omega) HL.out⟩
          · have lA := (hdep _ rfl ⟨10, .data⟩ (by simp) rfl).1
            have dV : u 68 = frV l ac x.1.nm := (hdep _ rfl ⟨8, .data⟩ (by simp) rfl).2
            obtain ⟨y, q1, q2, q3, q4, _⟩ := hj.at_ lA
            have cy := q4 (gD_no (by omega) hLi)
            have x6 := fun o => row_cell cy o
            have y6 := fun o => row_frozen cy o
            have HJ2 : Hid (∀ val, FgJ wr 78 13 10 11 #[.int .i64 0, .string ⟨#[]⟩, .string ⟨#[]⟩, .slice none 0 0] #[.int .i64 (frD l x.1.nm).k, .string (frD l x.1.nm).nm, .string (frD l x.1.nm).on, .slice (frAd l ac x.1.nm).1 (frS l x.1.nm).len (frAd l ac x.1.nm).2] (D.setIfInBounds 11 true) (G.upd u 99 val) ((((W.setCell ⟨y, 0, none⟩ (.int .i64 (frD l x.1.nm).k)).setCell ⟨y, 1, none⟩ (.string (frD l x.1.nm).nm)).setCell ⟨y, 2, none⟩ (.string (frD l x.1.nm).on)).setCell ⟨y, 3, none⟩ (.slice (frAd l ac x.1.nm).1 (frS l x.1.nm).len (frAd l ac x.1.nm).2))) := fun val => FgJ.stored hj (by decide) (by decide) lA (by omega) q1 (fun g hg => by rw [heap_setV _ _ _ _ _ hg, heap_setV _ _ _ _ _ hg, heap_setV _ _ _ _ _ hg, heap_setV _ _ _ _ _ hg]) (by simp) ((((hbW.setCell q2 _).setCell q2 _).setCell q2 _).setCell q2 _) (four_setV cy)
            unfold frV at dV
            refine wpOp_step rfl (fun K hK => ?_)
            clear hdep cy q4 hj
            go_simp
            exact hK _ _ ⟨undef, by simp [G.upd, q1, dV], fun _ _ h => h, trivial, HJ2.out _⟩
        case last =>
          intro D u W hLs hD hj hp
          obtain ⟨y, q1, q2, q3, _, q5⟩ := hj.at_ (hD 10 (by omega))
          have Q5 : Hid _ := q5 (hD 11 (by omega))
          have QB : Hid (Below wr.heap.size wr W) := hj.below
          have d9 : u 69 = .bool (frB l x.1.nm) := hp 9 (by omega)
          have y5 := fun o => row_cell Q5.out o
          clear hp hj q5
          unfold G.wpTail
          refine wpOp_step rfl (fun K hK => ?_)
          go_simp
          refine hK _ _ ?_
          clear hK
          unfold G.wpTail
          go_wp2_with fail
          go_meet
          exact ⟨_, _, by rw [HIN.out], by rw [HIN.out]; exact frag_row HC.out _, QB⟩
      | false =>
        have HIN : Hid (inS l x = x.2) := by unfold Hid inS; rw [if_neg (by rw [hk2]; decide)]
        go_wp2_with fail
        go_meet
        exact ⟨b3, e3, by rw [HIN.out], by rw [HIN.out]; exact HR3, Below.refl _ _⟩
    obtain ⟨bx, cx, rfl, HRX, HBX⟩ := hcut
    obtain ⟨wz, rfl⟩ : ∃ z, z = wc := ⟨_, rfl⟩
    have BWZ : Hid (Below WV.heap.size WV wz) := HBW.out.trans (HBX.out.mono HBW.out.size)
    have TZ : Hid _ := T.out _ BWZ.out
    obtain ⟨dq, hdq, HDQ⟩ : ∃ dq : Nat, dq ≤ 12 ∧ Hid (dq = d + if (x.1.k == 1) = true then 1 else 0) := ⟨_, by split <;> omega, rfl⟩
    have HDD : Hid (dd = (12 : Int) - dq) := by
      have h1 := HBN.out
      have h2 := hdn.out
      unfold bitN at h1
      rw [Hid, hdd.out, h2, HDQ.out, ← h1]
      split <;> simp <;> omega
    have hxlb := LB.inS HDB.out (x := x) HXB.out.2
    have HCALL := IH.out (m + 1) (by omega) (by omega) (toL (inS l x)) bx cx dq wz hdq (SelRow.fr2 HRX.out TZ.out.2.2.1) TZ.out.2.2.1 hxlb.1
    rw [toL_len, ← HDD.out, show (400 : Int) - ((m + 1 : Nat) : Int) = 400 - m - 1 by omega] at HCALL
    have HCL : Hid _ := HCALL
    rw [← HDQ.out] at HSUB HNXT
    have x9 := fun o => row_cell TZ.out.1 o
    clear HCALL hxlb x0 d0 d1 d2 d3 d4 d5
    go_wp2_with fail
    refine Calls.mono HCL.out ?_
    rintro e w9 ⟨⟨y, q, hL, rfl⟩, b9⟩
    have BW9 : Hid (Below WV.heap.size WV w9) := BWZ.out.trans (b9.mono BWZ.out.size)
    have G9 : Hid (Below w.heap.size w w9) := (T.out _ BW9.out).2.2.2
    have HLM : Hid (Lim l (toL (inS l x)) dq (m + 1) y q) := hL
    have hup := hL.up
    have htop := hL.top (by omega)
    have hq1 : q ≤ 401 := htop.1
    have HTP : Hid _ := htop
    have hcod := hL.codes
    clear b9 hL x9 HCL htop
    rcases hcod with rfl | rfl | rfl
    · have HT2 : Hid (LimTo l s d n (k + 1) q) := .inl ⟨HTP.out.2.1 rfl, HNXT.out q HLM.out⟩
      go_wp2_with fail
      exact ⟨⟨k + 1, q, rfl, by go_num, by omega, by omega, hq1, BW9, HT2⟩, by simp [intOf]; omega⟩
    · have hq : q = 401 := HTP.out.2.2 rfl
      subst hq
      have HT2 : Hid (LimTo l s d n (k + 1) 401) := .inr ⟨rfl, HSUB.out 6 401 HLM.out (by decide)⟩
      go_wp2_with fail
      exact ⟨⟨k + 1, 401, rfl, by go_num, by omega, by omega, by omega, BW9, HT2⟩, by simp [intOf]; omega⟩
    · have HE : Hid (Lim l s d n 8 q) := HSUB.out 8 q HLM.out (by decide)
      go_wp2_with fail
      go_ret2
      exact ⟨⟨8, q, HE.out, rfl⟩, G9.out⟩
end Go.Proofs.YtkjndghkimnjeaaGreat
