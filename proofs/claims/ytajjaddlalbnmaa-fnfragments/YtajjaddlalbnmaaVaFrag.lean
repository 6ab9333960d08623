/- A fragment found by its name, told exactly; the region 'f, _ := l02Fragment(d, ..)' in whatever order. -/
import Derived.Test.YtajjaddlalbnmaaVaApp
import Derived.Test.YtajjaddlalbnmaaGRegionSix
namespace Go.Proofs.Ytajjaddlalbnmaa
open Go.ChangeShapes Go.WideShapes Go.ChangeAt Go.RowKit
set_option linter.unusedVariables false

/-- Where each definition's selections lie. -/
def DocAc (w0 : World) (a : Option Addr) (l : List De) (ac : Nat → Option Addr × Nat) : Prop := ∀ j (h : j < l.length), ∃ b o, a = some ⟨b, o, none⟩ ∧ b < w0.heap.size ∧ w0.cell? ⟨b, o + j * 4, none⟩ = some (.int .i64 l[j].k) ∧ w0.cell? ⟨b, o + j * 4 + 1, none⟩ = some (.string l[j].nm) ∧ w0.cell? ⟨b, o + j * 4 + 2, none⟩ = some (.string l[j].on) ∧ w0.cell? ⟨b, o + j * 4 + 3, none⟩ = some (.slice (ac j).1 l[j].sels.len (ac j).2) ∧ SelRow 0 w0.heap.size w0 (ac j).1 l[j].sels
theorem docAc {w0 : World} {a : Option Addr} {l : List De} (h : DeRow 0 w0.heap.size w0 a l) : ∃ ac, DocAc w0 a l ac := by
  have : ∀ j : Nat, ∃ p : Option Addr × Nat, ∀ h' : j < l.length, ∃ b o, a = some ⟨b, o, none⟩ ∧ b < w0.heap.size ∧ w0.cell? ⟨b, o + j * 4, none⟩ = some (.int .i64 l[j].k) ∧ w0.cell? ⟨b, o + j * 4 + 1, none⟩ = some (.string l[j].nm) ∧ w0.cell? ⟨b, o + j * 4 + 2, none⟩ = some (.string l[j].on) ∧ w0.cell? ⟨b, o + j * 4 + 3, none⟩ = some (.slice p.1 l[j].sels.len p.2) ∧ SelRow 0 w0.heap.size w0 p.1 l[j].sels := by
    intro j
    by_cases hj : j < l.length
    · obtain ⟨b, o, a3, c3, ha, _, hbl, d0, d1, d2, d3, r3⟩ := DeRow.cells h j hj
      exact ⟨(a3, c3), fun _ => ⟨b, o, ha, hbl, d0, d1, d2, d3, r3⟩⟩
    · exact ⟨(none, 0), fun h' => absurd h' hj⟩
  exact ⟨fun j => Classical.choose (this j), fun j hj => Classical.choose_spec (this j) hj⟩
def frIx (l : List De) (n : ByteArray) : Nat := l.findIdx (isFr n)
def frD (l : List De) (n : ByteArray) : De := (l.find? (isFr n)).getD de0
def frAd (l : List De) (ac : Nat → Option Addr × Nat) (n : ByteArray) : Option Addr × Nat := if frIx l n < l.length then ac (frIx l n) else (none, 0)
theorem frD_sels (l : List De) (n : ByteArray) : (frD l n).sels = frS l n := by
  unfold frD frS
  cases l.find? (isFr n) <;> rfl
theorem findIdx_at {p : De → Bool} : ∀ {l : List De} {k : Nat} (hk : k < l.length), (∀ x ∈ l.take k, p x = false) → p l[k] = true → l.findIdx p = k
  | [], k, hk, _, _ => by simp at hk
  | x :: l, 0, hk, _, h => by
    have h : p x = true := h
    simp [List.findIdx_cons, h]
  | x :: l, k + 1, hk, ha, h => by
    have hx : p x = false := ha x (by simp)
    have := findIdx_at (l := l) (k := k) (by simpa using hk) (fun y hy => ha y (by simp [hy])) (by simpa using h)
    simp [List.findIdx_cons, hx, this]
theorem frAd_at {l : List De} {ac : Nat → Option Addr × Nat} {n : ByteArray} {k : Nat} (hk : k < l.length) (ha : ∀ x ∈ l.take k, isFr n x = false) (h : isFr n l[k] = true) : frAd l ac n = ac k ∧ frD l n = l[k] := by
  have e := findIdx_at hk ha h
  unfold frAd frIx frD
  rw [e, if_pos hk, find_at hk ha h]
  exact ⟨rfl, rfl⟩
theorem frAd_no {l : List De} {ac : Nat → Option Addr × Nat} {n : ByteArray} (ha : ∀ x ∈ l, isFr n x = false) : frAd l ac n = (none, 0) ∧ frD l n = de0 := by
  unfold frAd frIx frD
  rw [find_no ha, if_neg (by rw [List.findIdx_lt_length]; rintro ⟨x, hx, h⟩; rw [ha x hx] at h; cases h)]
  exact ⟨rfl, rfl⟩
theorem frag_row {w0 : World} {a : Option Addr} {l : List De} {ac : Nat → Option Addr × Nat} (h : DocAc w0 a l ac) (n : ByteArray) : SelRow 0 w0.heap.size w0 (frAd l ac n).1 (frS l n) := by
  by_cases hn : ∃ x ∈ l, isFr n x = true
  · have hi : l.findIdx (isFr n) < l.length := List.findIdx_lt_length.2 hn
    obtain ⟨_, _, _, _, _, _, _, _, r⟩ := h _ hi
    have hx : l.find? (isFr n) = some l[l.findIdx (isFr n)] := by
      refine find_at hi (fun x hx => ?_) (List.findIdx_getElem (w := hi))
      obtain ⟨j, hj, rfl⟩ := List.getElem_of_mem hx
      rw [List.length_take] at hj
      rw [List.getElem_take]
      have := List.not_of_lt_findIdx (p := isFr n) (xs := l) (i := j) (by omega)
      simpa using this
    unfold frAd frIx frS
    rw [if_pos hi, hx]
    exact r
  · have : l.find? (isFr n) = none := find_no fun x hx => by
      cases hc : isFr n x with
      | false => rfl
      | true => exact absurd ⟨x, hx, hc⟩ hn
    unfold frS
    rw [this]
    exact .inl rfl
def frV (l : List De) (ac : Nat → Option Addr × Nat) (n : ByteArray) : Value := .agg #[.int .i64 (frD l n).k, .string (frD l n).nm, .string (frD l n).on, .slice (frAd l ac n).1 (frS l n).len (frAd l ac n).2]
def frB (l : List De) (n : ByteArray) : Bool := (l.find? (isFr n)).isSome
set_option maxHeartbeats 4000000 in
set_option maxRecDepth 40000 in
theorem spec_frag (w0 : World) (a : Option Addr) (c : Nat) (l : List De) (ac : Nat → Option Addr × Nat) (s : ByteArray) (w : World) (hac : DocAc w0 a l ac) (hl : l.length ≤ 1048576) (hb0 : Below w0.heap.size w0 w) :
    Calls Try.prog 38 #[.agg #[.slice a l.length c], .string s] w fun e w' => e = .returned (.tuple #[frV l ac s, .bool (frB l s)]) ∧ Below w.heap.size w w' := by
  have HC : Hid (DocAc w0 a l ac) := hac
  have HB0 : Hid (Below w0.heap.size w0 w) := hb0
  clear hac hb0
  obtain ⟨V, HV⟩ : ∃ V, Hid (V = frV l ac s) := ⟨_, rfl⟩
  obtain ⟨F, HFB⟩ : ∃ F, Hid (F = frB l s) := ⟨_, rfl⟩
  rw [← HV.out, ← HFB.out]
  go_enter Try.func38, Try.ntmps38
  go_wp2_with fail
  obtain ⟨W, hW⟩ : ∃ W, W = (w.alloc (.cells #[.slice a l.length c] 25)).alloc (.cells #[.int .i64 0, .string ⟨#[]⟩, .string ⟨#[]⟩, .slice none 0 0] 30) := ⟨_, rfl⟩
  rw [← hW]
  have B0 : Below w.heap.size w W := by rw [hW]; exact ((Below.refl _ _).alloc (Nat.le_refl _) _).alloc (by simp) _
  have zW : W.heap.size = w.heap.size + 2 := by rw [hW]; simp
  have kW : ∀ o, W.cell? ⟨w.heap.size, o, none⟩ = (#[.slice a l.length c] : Array Value)[o]? := fun o => by
    rw [hW]
    refine (((Below.refl _ _).alloc (Nat.le_refl _) _).cell (p := ⟨w.heap.size, o, none⟩) (by simp)).trans (row_cell (heap_alloc_new _ _) o)
  have HJ : Hid (W.heap[w.heap.size + 1]? = some (.cells #[.int .i64 0, .string ⟨#[]⟩, .string ⟨#[]⟩, .slice none 0 0] 30 (0, 0))) := by
    unfold Hid
    rw [hW]
    have := heap_alloc_new (w.alloc (.cells #[.slice a l.length c] 25)) (.cells #[.int .i64 0, .string ⟨#[]⟩, .string ⟨#[]⟩, .slice none 0 0] 30)
    simpa using this
  clear hW
  go_loopw [6] (fun i w' => ∃ (k : Nat), k ≤ l.length ∧ i = .int .i64 k ∧ Below W.heap.size W w' ∧ Hid (∀ x ∈ l.take k, isFr s x = false)) (fun i _ => l.length - (intOf i).toNat)
  case atStart => exact ⟨0, by omega, rfl, Below.refl _ _, by simp [Hid]⟩
  case round =>
    obtain ⟨k, hk, rfl, hbw, HA⟩ := hrel
    have hbz := hbw.size
    have ks : wr.cell? ⟨w.heap.size, 0, none⟩ = some (.slice a l.length c) := (hbw.cell (p := ⟨w.heap.size, 0, none⟩) (show w.heap.size < W.heap.size by omega)).trans (kW 0)
    have HJr : Hid (wr.heap[w.heap.size + 1]? = _) := (hbw.block _ (by omega)).trans HJ.out
    have kr := fun o => row_cell HJr.out o
    have jr := fun o => row_frozen HJr.out o
    have Qr : Hid (Below w.heap.size w wr) := B0.trans (hbw.mono (by omega))
    have Q0 : Hid (Below w0.heap.size w0 wr) := HB0.out.trans (Qr.out.mono HB0.out.size)
    have HBW : Hid _ := hbw
    by_cases hlt : k < l.length
    case neg =>
      have HN : Hid (V = .agg #[.int .i64 0, .string ⟨#[]⟩, .string ⟨#[]⟩, .slice none 0 0] ∧ F = false) := by
        have h1 : ∀ x ∈ l, isFr s x = false := by have := HA.out; rwa [List.take_of_length_le (by omega)] at this
        obtain ⟨e1, e2⟩ := frAd_no (ac := ac) h1
        refine ⟨?_, ?_⟩
        · rw [HV.out]; unfold frV; rw [← frD_sels, e1, e2]; rfl
        · rw [HFB.out]; unfold frB; rw [find_no h1]; rfl
      clear hbw
      go_wp2_with fail
      refine bodyPost_ret (v := .tuple #[.agg #[.int .i64 0, .string ⟨#[]⟩, .string ⟨#[]⟩, .slice none 0 0], .bool false]) (by simp [results, Try.results38, go_sem, kr]) rfl ⟨by rw [HN.out.1, HN.out.2], ?_⟩
      repeat (first | exact Qr.out | refine Below.setCell ?_ (by first | omega | (simp <;> omega)) _ | refine Below.alloc ?_ (by first | omega | (simp <;> omega)) _)
    obtain ⟨b, o, ha, hbl, d0, d1, d2, d3, _⟩ := HC.out k hlt
    subst ha
    replace d0 := (Q0.out.cell (p := ⟨b, o + k * 4, none⟩) hbl).trans d0
    replace d1 := (Q0.out.cell (p := ⟨b, o + k * 4 + 1, none⟩) hbl).trans d1
    replace d2 := (Q0.out.cell (p := ⟨b, o + k * 4 + 2, none⟩) hbl).trans d2
    replace d3 := (Q0.out.cell (p := ⟨b, o + k * 4 + 3, none⟩) hbl).trans d3
    clear hbw
    cases h3 : (l[k].k == 3) with
    | false =>
      have HF : Hid (isFr s l[k] = false) := by unfold Hid isFr; rw [h3]; rfl
      go_wp2_with fail
      exact ⟨⟨k + 1, by omega, by go_num, HBW.out, isFr_take hlt HA.out HF.out⟩, by simp [intOf]; omega⟩
    | true =>
    cases h4 : (l[k].nm.toList == s.toList) with
    | false =>
      have HF : Hid (isFr s l[k] = false) := by unfold Hid isFr; rw [h3, h4]; rfl
      go_wp2_with fail
      exact ⟨⟨k + 1, by omega, by go_num, HBW.out, isFr_take hlt HA.out HF.out⟩, by simp [intOf]; omega⟩
    | true =>
    have HF : Hid (V = .agg #[.int .i64 l[k].k, .string l[k].nm, .string l[k].on, .slice (ac k).1 l[k].sels.len (ac k).2] ∧ F = true) := by
      have h5 : isFr s l[k] = true := by unfold isFr; rw [h3, h4]; rfl
      obtain ⟨e1, e2⟩ := frAd_at (ac := ac) hlt HA.out h5
      refine ⟨?_, ?_⟩
      · rw [HV.out]; unfold frV; rw [← frD_sels, e1, e2]
      · rw [HFB.out]; unfold frB; rw [find_at hlt HA.out h5]; rfl
    go_wp2_with fail
    refine bodyPost_ret (v := .tuple #[.agg #[.int .i64 l[k].k, .string l[k].nm, .string l[k].on, .slice (ac k).1 l[k].sels.len (ac k).2], .bool true]) (by simp [results, Try.results38, go_sem, kr]) rfl ⟨by rw [HF.out.1, HF.out.2], ?_⟩
    repeat (first | exact Qr.out | refine Below.setCell ?_ (by first | omega | (simp <;> omega)) _ | refine Below.alloc ?_ (by first | omega | (simp <;> omega)) _)

/-- Where such a region stands: iA makes the variable (slot sA), iS stores into it. -/
structure FgJ (w9 : World) (e : TypeId) (sA iA iS : Nat) (fz fv : Array Value) (D : Array Bool) (u : Nat → Value) (W : World) : Prop where
  below : Below w9.heap.size w9 W
  at_ : D.getD iA false = true → ∃ y, u sA = .pointer (some ⟨y, 0, none⟩) ∧ w9.heap.size ≤ y ∧ y < W.heap.size ∧ (D.getD iS false = false → W.heap[y]? = some (.cells fz e (0, 0))) ∧ (D.getD iS false = true → W.heap[y]? = some (.cells fv e (0, 0)))
  ord : D.getD iS false = true → D.getD iA false = true
theorem gD_ne {L : Array Bool} {i j : Nat} (h : i ≠ j) : (L.setIfInBounds i true).getD j false = L.getD j false := by
  simp only [Array.getD_eq_getD_getElem?, Array.getElem?_setIfInBounds_ne h]
theorem gD_at {L : Array Bool} {i : Nat} (h : i < L.size) : (L.setIfInBounds i true).getD i false = true := by
  simp [h]
theorem gD_no {L : Array Bool} {i : Nat} (hi : i < L.size) (h : L.getD i true = false) : L.getD i false = false := by
  cases h8 : L.getD i false
  · rfl
  · rw [G.getD_both hi h8] at h; cases h
theorem FgJ.start {w9 : World} {e : TypeId} {sA iA iS m : Nat} {fz fv : Array Value} {u : Nat → Value} : FgJ w9 e sA iA iS fz fv (Array.replicate m false) u w9.drew :=
  ⟨(Below.refl _ _).drew, fun h => by
    by_cases hx : iA < m
    · simp [hx] at h
    · simp [hx] at h, fun h => by
    by_cases hx : iS < m
    · simp [hx] at h
    · simp [hx] at h⟩
/-- An operation that leaves the variable's block. -/
theorem FgJ.step {w9 : World} {e : TypeId} {sA iA iS : Nat} {fz fv : Array Value} {D : Array Bool} {u : Nat → Value} {W W' : World} (h : FgJ w9 e sA iA iS fz fv D u W) {i d : Nat} {val : Value} (h1 : i ≠ iA) (h2 : i ≠ iS) (h3 : sA ≠ d) (hb : Below W.heap.size W W') : FgJ w9 e sA iA iS fz fv (D.setIfInBounds i true) (G.upd u d val) W' := by
  refine ⟨h.below.trans (hb.mono h.below.size), ?_, by rw [gD_ne h1, gD_ne h2]; exact h.ord⟩
  rw [gD_ne h1, gD_ne h2, G.upd_ne _ _ h3]
  intro hA
  obtain ⟨y, q1, q2, q3, q4, q5⟩ := h.at_ hA
  exact ⟨y, q1, q2, Nat.lt_of_lt_of_le q3 hb.size, fun z => (hb.block y q3).trans (q4 z), fun z => (hb.block y q3).trans (q5 z)⟩
theorem FgJ.made {w9 : World} {e : TypeId} {sA iA iS : Nat} {fz fv : Array Value} {D : Array Bool} {u : Nat → Value} {W : World} (h : FgJ w9 e sA iA iS fz fv D u W) (h2 : iA ≠ iS) (hi : iA < D.size) (hl : D.getD iA true = false) : FgJ w9 e sA iA iS fz fv (D.setIfInBounds iA true) (G.upd u sA (.pointer (some ⟨W.heap.size, 0, none⟩))) (W.alloc (.cells fz e)) := by
  refine ⟨h.below.alloc h.below.size _, fun _ => ⟨W.heap.size, G.upd_at _ _ _, h.below.size, by simp, fun _ => heap_alloc_new _ _, ?_⟩, fun _ => gD_at hi⟩
  rw [gD_ne h2]
  intro hc
  have := h.ord hc
  rw [gD_no hi hl] at this
  cases this
theorem FgJ.stored {w9 : World} {e : TypeId} {sA iA iS : Nat} {fz fv : Array Value} {D : Array Bool} {u : Nat → Value} {W W' : World} (h : FgJ w9 e sA iA iS fz fv D u W) {d : Nat} {val : Value} (h2 : iA ≠ iS) (h3 : sA ≠ d) (hA : D.getD iA false = true) (hi : iS < D.size) {y : Nat} (hy : u sA = .pointer (some ⟨y, 0, none⟩)) (hb : ∀ g, g ≠ y → W'.heap[g]? = W.heap[g]?) (hz : W'.heap.size = W.heap.size) (hw : Below w9.heap.size w9 W') (hc : W'.heap[y]? = some (.cells fv e (0, 0))) : FgJ w9 e sA iA iS fz fv (D.setIfInBounds iS true) (G.upd u d val) W' := by
  refine ⟨hw, ?_, fun _ => by rw [gD_ne (Ne.symm h2)]; exact hA⟩
  rw [gD_ne (Ne.symm h2), gD_at hi, G.upd_ne _ _ h3]
  intro _
  obtain ⟨y', q1, q2, q3, _⟩ := h.at_ hA
  rw [hy] at q1
  simp only [Value.pointer.injEq, Option.some.injEq, Addr.mk.injEq, and_true] at q1
  subst q1
  exact ⟨y, hy, q2, by omega, fun hc => (by cases hc), fun _ => hc⟩
theorem heap_setV (w : World) (b o : Nat) (v : Value) (g : Nat) (h : g ≠ b) : (w.setCell ⟨b, o, none⟩ v).heap[g]? = w.heap[g]? := Below.heap_setCell _ _ _ _ h
theorem four_setV {w : World} {N : Nat} {e : TypeId} {c0 c1 c2 c3 v0 v1 v2 v3 : Value} (h : w.heap[N]? = some (.cells #[c0, c1, c2, c3] e (0, 0))) : ((((w.setCell ⟨N, 0, none⟩ v0).setCell ⟨N, 1, none⟩ v1).setCell ⟨N, 2, none⟩ v2).setCell ⟨N, 3, none⟩ v3).heap[N]? = some (.cells #[v0, v1, v2, v3] e (0, 0)) := by
  have := row_set (row_set (row_set (row_set h 0 v0) 1 v1) 2 v2) 3 v3
  simpa using this
end Go.Proofs.Ytajjaddlalbnmaa
