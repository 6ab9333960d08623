/- CheckTypes: the specification's going through definitions. -/
import Derived.Test.YtkjndghkimnjeaaGreatTySet
import Derived.Test.YtkjndghkimnjeaaGreatGRegionFive
import Derived.Test.YtkjndghkimnjeaaGreatDocSzTwo
import Derived.Test.YtkjndghkimnjeaaGreatTySelsSpec
namespace Go.Proofs.YtkjndghkimnjeaaGreat
open Go.ChangeShapes Go.WideShapes Go.ChangeAt Go.RowKit Go.Maps
set_option linter.unusedVariables false

theorem docC_here {S : List G.Td} {D : List De} {L : List De} {k : Nat} (hk : k < L.length) : docC S D (L.drop k) = if defC S D L[k] = 0 then docC S D (L.drop (k + 1)) else defC S D L[k] := by
  rw [List.drop_eq_getElem_cons hk]; rfl
theorem docC_end {S : List G.Td} {D : List De} {L : List De} {k : Nat} (hk : ¬ k < L.length) : docC S D (L.drop k) = 0 := by
  rw [List.drop_of_length_le (by omega)]; rfl
theorem doc_def {D : List De} (h : docB D = true) : ∀ x ∈ D, okS 7 x.sels = true := by
  unfold docB at h
  simp only [Bool.and_eq_true] at h
  intro x hx
  have := (List.all_eq_true.1 h.1.2) x hx
  unfold defB at this
  rw [Bool.and_eq_true] at this
  exact this.2
theorem tyNm_size {x : De} (h : x.on.size ≤ 1048576) : (tyNm x).size ≤ maxLen := by
  unfold tyNm
  split
  · decide
  · split
    · decide
    · unfold maxLen; omega

/-- What the operations leave that look a definition's type up. -/
def PT (M Z Bt : Nat) (fv : Value) (n : ByteArray) (t' : G.Td) (a8 : Option Addr) (c8 : Nat) (bo : Bool) (i : Nat) (v : Value) (wx : World) : Prop :=
  match i with
  | 0 => v = .pointer (some ⟨M, 0, none⟩)
  | 1 => v = .map (some Bt)
  | 2 => v = fv
  | 3 => v = .string n
  | 4 => v = .tuple #[.agg #[.string t'.nm, .slice a8 t'.fs.length c8], .bool bo]
  | 5 => v = .tuple #[.agg #[.string t'.nm, .slice a8 t'.fs.length c8], .bool bo]
  | 6 => v = .agg #[.string t'.nm, .slice a8 t'.fs.length c8]
  | 7 => v = .bool bo
  | 8 => ∃ B cs, v = .pointer (some ⟨B, 0, none⟩) ∧ Z ≤ B ∧ wx.heap[B]? = some (.cells cs 93 (0, 0)) ∧ cs.size = 2
  | 9 => ∃ B, v = .pointer (some ⟨B, 0, none⟩) ∧ Z ≤ B ∧ wx.heap[B]? = some (.cells #[.string t'.nm, .slice a8 t'.fs.length c8] 93 (0, 0))
  | _ => True
theorem PT.up {M Z Bt : Nat} {fv : Value} {n : ByteArray} {t' : G.Td} {a8 : Option Addr} {c8 : Nat} {bo : Bool} {w w' : World} (hb : Below w.heap.size w w') : ∀ i v, PT M Z Bt fv n t' a8 c8 bo i v w → PT M Z Bt fv n t' a8 c8 bo i v w' := by
  intro i v h
  have lt : ∀ {B : Nat} {o : Obj}, w.heap[B]? = some o → B < w.heap.size := fun h => (Array.getElem?_eq_some_iff.1 h).1
  unfold PT at h ⊢
  split at h
  · exact h
  · exact h
  · exact h
  · exact h
  · exact h
  · exact h
  · exact h
  · exact h
  · obtain ⟨B, cs, h1, h2, h3, h4⟩ := h; exact ⟨B, cs, h1, h2, (hb.block _ (lt h3)).trans h3, h4⟩
  · obtain ⟨B, h1, h2, h3⟩ := h; exact ⟨B, h1, h2, (hb.block _ (lt h3)).trans h3⟩
  · trivial
/-- .. and by the store of what was found. -/
theorem PT.set {M Z Bt : Nat} {fv : Value} {n : ByteArray} {t' : G.Td} {a8 : Option Addr} {c8 : Nat} {bo : Bool} {w : World} {B : Nat} {cs : Array Value} (hB : w.heap[B]? = some (.cells cs 93 (0, 0))) (hs : cs.size = 2) :
    ((w.setCell ⟨B, 0, none⟩ (.string t'.nm)).setCell ⟨B, 1, none⟩ (.slice a8 t'.fs.length c8)).heap[B]? = some (.cells #[.string t'.nm, .slice a8 t'.fs.length c8] 93 (0, 0)) ∧
    ∀ i v, PT M Z Bt fv n t' a8 c8 bo i v w → PT M Z Bt fv n t' a8 c8 bo i v ((w.setCell ⟨B, 0, none⟩ (.string t'.nm)).setCell ⟨B, 1, none⟩ (.slice a8 t'.fs.length c8)) := by
  have key : ((w.setCell ⟨B, 0, none⟩ (.string t'.nm)).setCell ⟨B, 1, none⟩ (.slice a8 t'.fs.length c8)).heap[B]? = some (.cells #[.string t'.nm, .slice a8 t'.fs.length c8] 93 (0, 0)) := by
    have := row_set (row_set hB 0 (.string t'.nm)) 1 (.slice a8 t'.fs.length c8)
    rw [this]
    obtain ⟨l⟩ := cs
    match l, hs with
    | [x, y], _ => rfl
  have oth : ∀ g, g ≠ B → ((w.setCell ⟨B, 0, none⟩ (.string t'.nm)).setCell ⟨B, 1, none⟩ (.slice a8 t'.fs.length c8)).heap[g]? = w.heap[g]? := fun g hg => by
    rw [Below.heap_setCell _ _ _ _ hg, Below.heap_setCell _ _ _ _ hg]
  refine ⟨key, fun i v h => ?_⟩
  unfold PT at h ⊢
  split at h
  · exact h
  · exact h
  · exact h
  · exact h
  · exact h
  · exact h
  · exact h
  · exact h
  · obtain ⟨B', cs', h1, h2, h3, h4⟩ := h
    by_cases e : B' = B
    · subst e; exact ⟨B', _, h1, h2, key, rfl⟩
    · exact ⟨B', cs', h1, h2, (oth _ e).trans h3, h4⟩
  · obtain ⟨B', h1, h2, h3⟩ := h
    by_cases e : B' = B
    · subst e; exact ⟨B', h1, h2, key⟩
    · exact ⟨B', h1, h2, (oth _ e).trans h3⟩
  · trivial
def dstT (i : Nat) : Nat := if i < 5 then 22 + i else if i = 5 then 21 else if i = 6 then 27 else if i = 7 then 28 else if i = 8 then 8 else 100
theorem dstT_one : ∀ i j, i < 10 → j < 10 → dstT i = dstT j → i = j := by
  intro i j hi hj h
  unfold dstT at h
  repeat' split at h
  all_goals omega
def JT (L : Array Bool) (u : Nat → Value) (w : World) : Prop := L.getD 9 false = true → L.getD 8 false = true ∧ ∀ p, u 100 = .pointer p → u 8 = .pointer p
theorem JT.start (n : Nat) (u : Nat → Value) (w : World) : JT (Array.replicate n false) u w := by
  intro h
  rw [Array.getD_eq_getD_getElem?, Array.getElem?_replicate] at h
  split at h <;> simp at h
theorem JT.else_ {L : Array Bool} {u : Nat → Value} {w w' : World} (h : JT L u w) {i d : Nat} {v : Value} (i8 : i ≠ 8) (i9 : i ≠ 9) (h1 : d ≠ 100) (h2 : d ≠ 8) : JT (L.setIfInBounds i true) (G.upd u d v) w' := by
  unfold JT at h ⊢
  rw [G.upd_ne _ _ (Ne.symm h1), G.upd_ne _ _ (Ne.symm h2), getD_set_ne false i8, getD_set_ne false i9]
  exact h
theorem JT.eight {L : Array Bool} {u : Nat → Value} {w w' : World} (h : JT L u w) {v : Value} (h8 : L.getD 8 true = false) : JT (L.setIfInBounds 8 true) (G.upd u 8 v) w' := by
  intro h9
  rw [getD_set_ne false (by omega)] at h9
  have := (h h9).1
  rw [G.getD_both (G.getD_lt h8) this] at h8
  cases h8
theorem JT.nine {L : Array Bool} {u : Nat → Value} {w' : World} {v : Value} (h8 : L.getD 8 false = true) (hv : u 8 = v) : JT (L.setIfInBounds 9 true) (G.upd u 100 v) w' := by
  intro _
  rw [getD_set_ne false (by omega), G.upd_at, G.upd_ne _ _ (by omega)]
  exact ⟨h8, fun p hp => hv.trans hp⟩

set_option maxHeartbeats 16000000 in
set_option maxRecDepth 60000 in
theorem types_fault (a : Option Addr) (c : Nat) (S : List G.Td) (a' : Option Addr) (c' : Nat) (D : List De) (w : World) (hS : G.TdRow 0 w.heap.size w a S) (hO : G.OkN (S.map G.Td.nm)) (hB : G.TdsBd 1048576 S) (hD : DeRow 0 w.heap.size w a' D) (hb : DefsBd 1048576 D) (hdoc : docB D = true) :
    Calls Tryz.prog 56 #[.agg #[.slice a S.length c], .agg #[.slice a' D.length c']] w fun e w' => e = .returned (.int .i64 (docC S D D)) ∧ Below w.heap.size w w' := by
  have HS : Hid (∀ W0, Below w.heap.size w W0 → G.TdRow 0 W0.heap.size W0 a S) := fun W0 hB => G.TdRow.up hS hB
  have HO : Hid (G.OkN (S.map G.Td.nm)) := hO
  have HB : Hid (G.TdsBd 1048576 S) := hB
  have K1 : Hid (∀ W0, Below w.heap.size w W0 → DeRow 0 W0.heap.size W0 a' D) := fun W0 hB => DeRow.up hD hB
  have HD : Hid (DefsBd 1048576 D) := hb
  have HOK : Hid (∀ x ∈ D, okS 7 x.sels = true) := doc_def hdoc
  have hl : D.length ≤ 1048576 := hb.1
  clear hS hO hB hD hb hdoc
  go_enter Tryz.func56, Tryz.ntmps56
  go_wp2_with fail
  obtain ⟨W, hW⟩ : ∃ W, W = (w.alloc (.cells #[.slice a S.length c] 59)).alloc (.cells #[.slice a' D.length c'] 33) := ⟨_, rfl⟩
  rw [← hW]
  have zW : W.heap.size = w.heap.size + 2 := by rw [hW]; simp
  have BW : Hid (Below w.heap.size w W) := by rw [hW]; exact ((Below.refl _ _).alloc (Nat.le_refl _) _).alloc (by simp) _
  have A1 : Hid (W.heap[w.heap.size + 1]? = some (.cells #[.slice a' D.length c'] 33 (0, 0))) := by
    rw [Hid, hW]
    have := heap_alloc_new (w.alloc (.cells #[.slice a S.length c] 59)) (.cells #[.slice a' D.length c'] 33)
    simpa using this
  clear hW
  refine (new_check a c S a' c' D _ (HS.out _ BW.out) HO.out HB.out (K1.out _ BW.out) HD.out).mono ?_
  rintro e w1 ⟨⟨Bt, Bf, R, rfl, hTc⟩, hb1⟩
  have HTC : Hid (Tc W w1 S D Bt Bf R) := hTc
  have z1 := hb1.size
  have A2 : Hid (w1.heap[w.heap.size + 1]? = some (.cells #[.slice a' D.length c'] 33 (0, 0))) := (hb1.block _ (by omega)).trans A1.out
  have p2 := fun ob o => (((Below.refl w1.heap.size w1).alloc (Nat.le_refl _) ob).cell (p := ⟨w.heap.size + 1, o, none⟩) (show w.heap.size + 1 < w1.heap.size by omega)).trans (row_cell A2.out o)
  have Q1 : Hid (Below w.heap.size w w1) := BW.out.trans (hb1.mono (by omega))
  clear hTc hb1 A1
  unfold tcV
  go_wp2_with fail
  obtain ⟨V, hV⟩ : ∃ V, V = w1.alloc (.cells #[.map (some Bt), .map (some Bf), .slice (some ⟨R, 0, none⟩) 7 7] 148) := ⟨_, rfl⟩
  rw [← hV]
  have zV : V.heap.size = w1.heap.size + 1 := by rw [hV]; simp
  have BV : Hid (Below w1.heap.size w1 V) := by rw [hV]; exact (Below.refl _ _).alloc (Nat.le_refl _) _
  have CV : Hid (V.heap[w1.heap.size]? = some (.cells #[.map (some Bt), .map (some Bf), .slice (some ⟨R, 0, none⟩) 7 7] 148 (0, 0))) := by rw [Hid, hV]; exact heap_alloc_new _ _
  have HTV : Hid (Tc W V S D Bt Bf R) := HTC.out.keep BV.out
  have QV : Hid (Below w.heap.size w V) := Q1.out.trans (BV.out.mono (by omega))
  clear hV p2 HTC A2
  go_loopw [17] (fun i w' => ∃ (k : Nat), k ≤ D.length ∧ i = .int .i64 k ∧ Hid (Below V.heap.size V w') ∧ Hid (docC S D D = docC S D (D.drop k))) (fun i _ => D.length - (intOf i).toNat)
  case atStart => exact ⟨0, by omega, rfl, Below.refl _ _, rfl⟩
  case round =>
    obtain ⟨k, hk, rfl, HK, HE⟩ := hrel
    have zr := HK.out.size
    have QR : Hid (Below w.heap.size w wr) := QV.out.trans (HK.out.mono (by omega))
    by_cases hlt : k < D.length
    case neg =>
      have HN : Hid (0 = docC S D D) := by rw [Hid, HE.out, docC_end hlt]
      clear HE
      go_wp2_with fail
      go_ret
      exact ⟨ret_i HN.out, QR.out⟩
    have HEX : Hid (docC S D D = if defC S D D[k] = 0 then docC S D (D.drop (k + 1)) else defC S D D[k]) := by rw [Hid, HE.out, docC_here hlt]
    obtain ⟨b, o, a3, c3, ha, _, hbl, d0, d1, d2, d3, r3⟩ := DeRow.cells (K1.out _ QR.out) k hlt
    subst ha
    have R3 : Hid (SelRow 0 wr.heap.size wr a3 D[k].sels) := r3
    obtain ⟨x1, x2, x3, x4⟩ := HD.out.2 _ (List.getElem_mem hlt)
    have X4 : Hid (SelsBd 1048576 D[k].sels) := x4
    have OK3 : Hid (okS 7 D[k].sels = true) := HOK.out _ (List.getElem_mem hlt)
    have hts := tyNm_size x2
    have HTR : Hid (Tc W wr S D Bt Bf R) := HTV.out.keep HK.out
    clear r3 x4 HE
    go_wp2_with fail
    obtain ⟨X, hX⟩ : ∃ X, X = wr.alloc (.cells #[.int .i64 D[k].k, .string D[k].nm, .string D[k].on, .slice a3 D[k].sels.len c3] 78) := ⟨_, rfl⟩
    rw [← hX]
    have zX : X.heap.size = wr.heap.size + 1 := by rw [hX]; simp
    have BX : Hid (Below wr.heap.size wr X) := by rw [hX]; exact (Below.refl _ _).alloc (Nat.le_refl _) _
    have FX : Hid (X.heap[wr.heap.size]? = some (.cells #[.int .i64 D[k].k, .string D[k].nm, .string D[k].on, .slice a3 D[k].sels.len c3] 78 (0, 0))) := by rw [Hid, hX]; exact heap_alloc_new _ _
    have CX : Hid (X.heap[w1.heap.size]? = some (.cells #[.map (some Bt), .map (some Bf), .slice (some ⟨R, 0, none⟩) 7 7] 148 (0, 0))) := ((BX.out.block _ (by omega)).trans (HK.out.block _ (by omega))).trans CV.out
    have HTX : Hid (Tc W X S D Bt Bf R) := HTR.out.keep BX.out
    have R3X : Hid (SelRow 0 X.heap.size X a3 D[k].sels) := SelRow.up R3.out BX.out
    obtain ⟨E, n, hown, hh, hat⟩ := HTX.out.ty.at_ (tyNm D[k])
    have hkey := key_of hts
    obtain ⟨t', a8, c8, bo, hu, hbo, hx⟩ : ∃ t' a8 c8 bo, E.atKey (.string (tyNm D[k]).toList) (.held (tdV td0 .none 0)) = .held (tdV t' a8 c8) ∧ Maps.has E (.string (tyNm D[k]).toList) = bo ∧ ((bo = false ∧ tdIn S (tyNm D[k]) = none) ∨ (bo = true ∧ tdIn S (tyNm D[k]) = some t' ∧ t' ∈ S ∧ G.FdRow 0 X.heap.size X a8 t'.fs)) := by
      rcases hat with ⟨h1, h2⟩ | ⟨x, hx, a, c, h1, h3, h2, h4⟩
      · exact ⟨td0, .none, 0, false, h2, by rw [hh, h1], .inl ⟨rfl, td_none h1⟩⟩
      · exact ⟨x, a, c, true, h2, by rw [hh, h3], .inr ⟨rfl, td_find HO.out hx h1, hx, G.FdRow.wide (G.FdRow.keep h4 (G.agree HTX.out.be (Nat.le_refl _))) (Nat.le_refl _) HTX.out.be.size⟩⟩
    have HXX : Hid ((bo = false ∧ tdIn S (tyNm D[k]) = none) ∨ (bo = true ∧ tdIn S (tyNm D[k]) = some t' ∧ t' ∈ S ∧ G.FdRow 0 X.heap.size X a8 t'.fs)) := hx
    have HOWN : Hid (∀ W0, Below X.heap.size X W0 → W0.ownsMap Tryz.prog 9 heldE Bt n E) := fun W0 hB => by
      obtain ⟨es, clock, h1, h2⟩ := hown
      exact ⟨es, clock, (hB.block _ HTX.out.ty.lt).trans h1, h2⟩
    clear hX hat hh hown hx d0 d1 d2 d3
    unfold tdV at hu
    refine G.region_rel3 (n := 10) (by kernel_rfl) (by kernel_rfl) (by kernel_rfl) (fun u => ⟨#[.agg #[.slice a S.length c], .agg #[.slice (some ⟨b, o, none⟩) D.length c'], .pointer (some ⟨w.heap.size, 0, none⟩), .pointer (some ⟨w.heap.size + 1, 0, none⟩), u4, .pointer (some ⟨w1.heap.size, 0, none⟩), undef, .pointer (some ⟨wr.heap.size, 0, none⟩), u 8, u9, u10, .agg #[.slice a S.length c], .agg #[.slice (some ⟨b, o, none⟩) D.length c'], .agg #[.map (some Bt), .map (some Bf), .slice (some ⟨R, 0, none⟩) 7 7], .pointer (some ⟨w.heap.size + 1, 0, none⟩), .slice (some ⟨b, o, none⟩) D.length c', .int .i64 D.length, .int .i64 k, .bool true, .pointer (some ⟨b, o + k * 4, none⟩), .agg #[.int .i64 D[k].k, .string D[k].nm, .string D[k].on, .slice a3 D[k].sels.len c3], u 21, u 22, u 23, u 24, u 25, u 26, u 27, u 28, u29, u30, u31, u32, u33, u34, u35, u36, u37, u38, u39], []⟩) (fun n => match n with | 8 => u8 | 21 => u21 | 22 => u22 | 23 => u23 | 24 => u24 | 25 => u25 | 26 => u26 | 27 => u27 | 28 => u28 | _ => undef) dstT dstT_one (PT w1.heap.size X.heap.size Bt (.agg #[.int .i64 D[k].k, .string D[k].nm, .string D[k].on, .slice a3 D[k].sels.len c3]) (tyNm D[k]) t' a8 c8 bo) JT (JT.start _ _ _) ?step ?last
    case step =>
      intro L u w2 i hi hLs hLi hbw hj hdep
      have z2 := hbw.size
      have HJ : Hid (JT L u w2) := hj
      have fw := fun o => row_cell ((hbw.block wr.heap.size (by omega)).trans FX.out) o
      have cw := row_cell ((hbw.block w1.heap.size (by omega)).trans CX.out) 0
      have hown := HOWN.out _ hbw
      clear hj hbw
      have upR : ∀ j x, PT w1.heap.size X.heap.size Bt (.agg #[.int .i64 D[k].k, .string D[k].nm, .string D[k].on, .slice a3 D[k].sels.len c3]) (tyNm D[k]) t' a8 c8 bo j x w2 → PT w1.heap.size X.heap.size Bt (.agg #[.int .i64 D[k].k, .string D[k].nm, .string D[k].on, .slice a3 D[k].sels.len c3]) (tyNm D[k]) t' a8 c8 bo j x w2 := fun _ _ h => h
      have hcase : i = 0 ∨ i = 1 ∨ i = 2 ∨ i = 3 ∨ i = 4 ∨ i = 5 ∨ i = 6 ∨ i = 7 ∨ i = 8 ∨ i = 9 := by omega
      rcases hcase with rfl | rfl | rfl | rfl | rfl | rfl | rfl | rfl | rfl | rfl
      · refine wpOp_step rfl (fun K hK => ?_)
        clear hdep
        go_simp
        exact hK _ _ ⟨_, rfl, Below.refl _ _, upR, rfl, HJ.out.else_ (by decide) (by decide) (by decide) (by decide)⟩
      · have d0 : u 22 = .pointer (some ⟨w1.heap.size, 0, none⟩) := (hdep _ rfl ⟨0, .data⟩ (by simp) rfl).2
        refine wpOp_step rfl (fun K hK => ?_)
        clear hdep
        go_simp
        exact hK _ _ ⟨_, by simp [G.upd, dstT, d0], Below.refl _ _, upR, rfl, HJ.out.else_ (by decide) (by decide) (by decide) (by decide)⟩
      · refine wpOp_step rfl (fun K hK => ?_)
        clear hdep
        go_simp
        exact hK _ _ ⟨_, rfl, Below.refl _ _, upR, rfl, HJ.out.else_ (by decide) (by decide) (by decide) (by decide)⟩
      · have d2 : u 24 = .agg #[.int .i64 D[k].k, .string D[k].nm, .string D[k].on, .slice a3 D[k].sels.len c3] := (hdep _ rfl ⟨2, .data⟩ (by simp) rfl).2
        refine wpOp_step rfl (fun K hK => ?_)
        clear hdep
        go_simp
        refine (type_def D[k] a3 D[k].sels.len c3 _).mono ?_
        rintro e w8 ⟨rfl, hb8⟩
        exact hK _ _ ⟨_, by simp [G.upd, dstT, d2], hb8.mono z2, PT.up hb8, rfl, HJ.out.else_ (by decide) (by decide) (by decide) (by decide)⟩
      · have d1 : u 23 = .map (some Bt) := (hdep _ rfl ⟨1, .data⟩ (by simp) rfl).2
        have d3 : u 25 = .string (tyNm D[k]) := (hdep _ rfl ⟨3, .data⟩ (by simp) rfl).2
        obtain ⟨v, ps, hrun, hv⟩ := hown.look_ok law9 Tryz.underlying143 (zeroTd _) (zd := .held (.agg #[.string td0.nm, .slice none td0.fs.length 0])) (zp := []) rfl hkey
        rw [hu] at hv
        rw [hbo] at hrun
        simp only [heldE, Option.some.injEq, Prod.mk.injEq, DataW.held.injEq] at hv
        rw [hv.1] at hrun
        refine wpOp_step rfl (fun K hK => ?_)
        clear hdep hv
        go_simp
        exact hK _ _ ⟨.tuple #[.agg #[.string t'.nm, .slice a8 t'.fs.length c8], .bool bo], by simp [G.upd, dstT, d1, d3], Below.refl _ _, upR, rfl, HJ.out.else_ (by decide) (by decide) (by decide) (by decide)⟩
      · have d4 : u 26 = .tuple #[.agg #[.string t'.nm, .slice a8 t'.fs.length c8], .bool bo] := (hdep _ rfl ⟨4, .data⟩ (by simp) rfl).2
        refine wpOp_step rfl (fun K hK => ?_)
        clear hdep
        go_simp
        exact hK _ _ ⟨_, by simp [G.upd, dstT, d4], Below.refl _ _, upR, rfl, HJ.out.else_ (by decide) (by decide) (by decide) (by decide)⟩
      · have d5 : u 21 = .tuple #[.agg #[.string t'.nm, .slice a8 t'.fs.length c8], .bool bo] := (hdep _ rfl ⟨5, .data⟩ (by simp) rfl).2
        refine wpOp_step rfl (fun K hK => ?_)
        clear hdep
        go_simp
        exact hK _ _ ⟨_, by simp [G.upd, dstT, d5], Below.refl _ _, upR, rfl, HJ.out.else_ (by decide) (by decide) (by decide) (by decide)⟩
      · have d5 : u 21 = .tuple #[.agg #[.string t'.nm, .slice a8 t'.fs.length c8], .bool bo] := (hdep _ rfl ⟨5, .data⟩ (by simp) rfl).2
        refine wpOp_step rfl (fun K hK => ?_)
        clear hdep
        go_simp
        exact hK _ _ ⟨_, by simp [G.upd, dstT, d5], Below.refl _ _, upR, rfl, HJ.out.else_ (by decide) (by decide) (by decide) (by decide)⟩
      · skip
        refine wpOp_step rfl (fun K hK => ?_)
        clear hdep
        go_simp
        exact hK _ _ ⟨.pointer (some ⟨w2.heap.size, 0, none⟩), rfl, ((Below.refl _ _).alloc (Nat.le_refl _) _).mono z2, PT.up ((Below.refl _ _).alloc (Nat.le_refl _) _), ⟨w2.heap.size, _, rfl, z2, heap_alloc_new _ _, rfl⟩, HJ.out.eight hLi⟩
      · have p8 : PT w1.heap.size X.heap.size Bt (.agg #[.int .i64 D[k].k, .string D[k].nm, .string D[k].on, .slice a3 D[k].sels.len c3]) (tyNm D[k]) t' a8 c8 bo 8 (u 8) w2 := (hdep _ rfl ⟨8, .data⟩ (by simp) rfl).2
        have d6 : u 27 = .agg #[.string t'.nm, .slice a8 t'.fs.length c8] := (hdep _ rfl ⟨6, .data⟩ (by simp) rfl).2
        have h88 : L.getD 8 false = true := (hdep _ rfl ⟨8, .data⟩ (by simp) rfl).1
        obtain ⟨B, cs, e1, e2, e3, e4⟩ := p8
        have g0 : w2.cell? ⟨B, 0, none⟩ = some (cs[0]'(by omega)) := (row_cell e3 0).trans (Array.getElem?_eq_getElem (by omega))
        have g1 : w2.cell? ⟨B, 1, none⟩ = some (cs[1]'(by omega)) := (row_cell e3 1).trans (Array.getElem?_eq_getElem (by omega))
        have f0 := fun o => row_frozen e3 o
        refine wpOp_step rfl (fun K hK => ?_)
        clear hdep
        go_simp
        have ps := PT.set (M := w1.heap.size) (Z := X.heap.size) (Bt := Bt) (fv := .agg #[.int .i64 D[k].k, .string D[k].nm, .string D[k].on, .slice a3 D[k].sels.len c3]) (n := tyNm D[k]) (t' := t') (a8 := a8) (c8 := c8) (bo := bo) e3 e4
        exact hK _ _ ⟨.pointer (some ⟨B, 0, none⟩), by simp [G.upd, dstT, e1, d6], ((Below.refl _ _).setCell (p := ⟨B, 0, none⟩) e2 _).setCell (p := ⟨B, 1, none⟩) e2 _, ps.2, ⟨B, rfl, e2, ps.1⟩, JT.nine h88 e1⟩
    case last =>
      intro L u w2 hLs hdone hbw hj hp
      have p9 : PT w1.heap.size X.heap.size Bt (.agg #[.int .i64 D[k].k, .string D[k].nm, .string D[k].on, .slice a3 D[k].sels.len c3]) (tyNm D[k]) t' a8 c8 bo 9 (u 100) w2 := hp 9 (by omega)
      obtain ⟨B, e1, e2, e3⟩ := p9
      have e0 : u 8 = .pointer (some ⟨B, 0, none⟩) := (hj (hdone 9 (by omega))).2 _ e1
      have d7 : u 28 = .bool bo := hp 7 (by omega)
      have z2 := hbw.size
      have fw := row_cell ((hbw.block wr.heap.size (by omega)).trans FX.out) 3
      have cw := fun o => row_cell ((hbw.block w1.heap.size (by omega)).trans CX.out) o
      have bw := fun o => row_cell e3 o
      have HTL : Hid (Tc W w2 S D Bt Bf R) := HTX.out.keep hbw
      have R3L : Hid (SelRow 0 w2.heap.size w2 a3 D[k].sels) := SelRow.up R3X.out hbw
      have QL : Hid (Below w.heap.size w w2) := (QR.out.trans (BX.out.mono (by have := QR.out.size; omega))).trans (hbw.mono (by have := QR.out.size; omega))
      have VL : Hid (Below V.heap.size V w2) := (HK.out.trans (BX.out.mono (by omega))).trans (hbw.mono (by omega))
      have RFL : Hid (∀ h : G.FdRow 0 X.heap.size X a8 t'.fs, G.FdRow 0 w2.heap.size w2 a8 t'.fs) := fun h => G.FdRow.up h hbw
      clear hp hbw hj hdone e1 e3
      refine wpOp_step rfl (fun K hK => ?_)
      go_simp
      refine hK _ _ ?_
      clear hK K
      cases bo with
      | false =>
        have HN : Hid (12 = docC S D D) := by
          rcases HXX.out with ⟨_, h2⟩ | ⟨h1, _⟩
          · rw [Hid, HEX.out]; unfold defC; rw [h2]; rfl
          · cases h1
        clear HEX HXX
        go_wp2_with fail
        go_ret
        exact ⟨ret_i HN.out, QL.out⟩
      | true =>
        obtain ⟨h2, h3, h4⟩ : tdIn S (tyNm D[k]) = some t' ∧ t' ∈ S ∧ G.FdRow 0 X.heap.size X a8 t'.fs := by
          rcases HXX.out with ⟨h1, _⟩ | ⟨_, h⟩
          · cases h1
          · exact h
        have HDC : Hid (defC S D D[k] = setC S D t' D[k].sels) := by unfold Hid defC; rw [h2]
        have HTB : Hid (G.TdBd 1048576 t') := HB.out.2 _ h3
        have RF : Hid (G.FdRow 0 w2.heap.size w2 a8 t'.fs) := RFL.out h4
        clear HXX h2 h3 h4 RFL
        go_wp2_with fail
        refine (set_fault S D HO.out HB.out D[k].sels 7 t' a8 c8 a3 c3 Bt Bf R W _ HTL.out R3L.out RF.out HTB.out x3 X4.out OK3.out).mono ?_
        rintro e w3 ⟨rfl, hb3⟩
        have Q3 : Hid (Below w.heap.size w w3) := QL.out.trans (hb3.mono (by have := QL.out.size; omega))
        have V3 : Hid (Below V.heap.size V w3) := VL.out.trans (hb3.mono (by have := VL.out.size; omega))
        rw [← HDC.out]
        clear hb3 fw cw bw HDC
        generalize defC S D D[k] = y at *
        by_cases hz : y = 0
        · have HN : Hid (docC S D D = docC S D (D.drop (k + 1))) := by rw [Hid, HEX.out, if_pos hz]
          subst hz
          clear HEX
          go_wp2_with fail
          exact ⟨⟨k + 1, by omega, by go_num, V3, HN⟩, by simp [intOf]; omega⟩
        · have HN : Hid (y = docC S D D) := by rw [Hid, HEX.out, if_neg hz]
          have hz' : (y == 0) = false := by rw [beq_eq_false_iff_ne]; exact hz
          clear HEX
          go_wp2_with fail
          go_ret
          exact ⟨ret_i HN.out, Q3.out⟩
end Go.Proofs.YtkjndghkimnjeaaGreat
namespace Go.Proofs.YtkjndghkimnjeaaGreat
open Go.ChangeShapes Go.WideShapes Go.ChangeAt Go.RowKit
set_option linter.unusedVariables false

/-- What CheckTypes tells. -/
def CtR (S : List G.Td) (D : List De) (x y : Int) : Prop := (¬ G.SchOK S ∧ x = 0 ∧ y = 1) ∨ (G.SchOK S ∧ docB D = false ∧ x = 0 ∧ y = 1) ∨ (G.SchOK S ∧ docB D = true ∧ x = docC S D D ∧ y = 0)
theorem CtR.one {S : List G.Td} {D : List De} {x y x' y' : Int} (h : CtR S D x y) (h' : CtR S D x' y') : x = x' ∧ y = y' := by
  rcases h with ⟨a1, rfl, rfl⟩ | ⟨a1, a2, rfl, rfl⟩ | ⟨a1, a2, rfl, rfl⟩ <;> rcases h' with ⟨b1, rfl, rfl⟩ | ⟨b1, b2, rfl, rfl⟩ | ⟨b1, b2, rfl, rfl⟩ <;>
    first | exact ⟨rfl, rfl⟩ | exact absurd b1 a1 | exact absurd a1 b1 | (rw [a2] at b2; cases b2)
def SaysC (R : Int → Int → Prop) (e : Ending) : Prop := ∃ x y, e = .returned (.tuple #[.int .i64 x, .int .i64 y]) ∧ R x y

end Go.Proofs.YtkjndghkimnjeaaGreat
namespace Go.Proofs.YtkjndghkimnjeaaGreat
open Go.ChangeShapes Go.WideShapes Go.ChangeAt Go.RowKit
set_option linter.unusedVariables false

theorem has_seen (S : List G.Td) (n : ByteArray) : hasT S n = G.seen (S.map G.Td.nm) n := by unfold hasT G.seen; rw [List.any_map]; rfl
theorem def_kind {D : List De} (h : docB D = true) : ∀ x ∈ D, x.k = 1 ∨ x.k = 2 ∨ x.k = 3 := by
  unfold docB at h
  simp only [Bool.and_eq_true] at h
  intro x hx
  have := (List.all_eq_true.1 h.1.2) x hx
  unfold defB at this
  rw [Bool.and_eq_true, Bool.and_eq_true] at this
  have hh := this.1.1
  unfold headB at hh
  split at hh
  · rename_i h1; rcases h1 with h1 | h1
    · exact .inl h1
    · exact .inr (.inl h1)
  · split at hh
    · rename_i h1; exact .inr (.inr h1)
    · cases hh
def namesV (on : ByteArray) : Array Value := #[.string ⟨#[]⟩, .string ⟨#[81, 117, 101, 114, 121]⟩, .string ⟨#[77, 117, 116, 97, 116, 105, 111, 110]⟩, .string on]
theorem kind_name {x : De} (h : x.k = 1 ∨ x.k = 2 ∨ x.k = 3) : ∃ kk : Nat, x.k = (kk : Int) ∧ kk < 4 ∧ (namesV x.on)[kk]? = some (.string (tyNm x)) := by
  rcases h with h | h | h
  · exact ⟨1, h, by omega, by unfold tyNm; rw [if_pos h]; rfl⟩
  · exact ⟨2, h, by omega, by unfold tyNm; rw [if_neg (by omega), if_pos h]; rfl⟩
  · exact ⟨3, h, by omega, by unfold tyNm; rw [if_neg (by omega), if_neg (by omega)]; rfl⟩
def PK (N : Nat) (p : Option Addr) (n c k : Nat) (q q2 : Addr) (on : ByteArray) (kk : Nat) (nm : ByteArray) (i : Nat) (v : Value) (wx : World) : Prop :=
  match i with
  | 0 => v = .pointer (some ⟨N, 0, none⟩)
  | 1 => v = .slice p n c
  | 2 => v = .int .i64 k
  | 3 => v = .pointer (some q)
  | 4 => v = .pointer (some q2)
  | 5 => v = .string on
  | 6 => ∃ B, v = .slice (some ⟨B, 0, none⟩) 4 4 ∧ wx.heap[B]? = some (.cells (namesV on) 9 (0, 0))
  | 7 => v = .pointer (some ⟨N, 0, none⟩)
  | 8 => v = .slice p n c
  | 9 => v = .int .i64 k
  | 10 => v = .pointer (some q)
  | 11 => v = .pointer (some q)
  | 12 => v = .int .i64 kk
  | 13 => ∃ B, v = .pointer (some ⟨B, kk, none⟩) ∧ wx.heap[B]? = some (.cells (namesV on) 9 (0, 0))
  | 14 => v = .string nm
  | _ => True
theorem PK.up (N : Nat) (p : Option Addr) (n c k : Nat) (q q2 : Addr) (on : ByteArray) (kk : Nat) (nm : ByteArray) : ∀ i v w w', PK N p n c k q q2 on kk nm i v w → Below w.heap.size w w' → PK N p n c k q q2 on kk nm i v w' := by
  intro i v w w' h hb
  unfold PK at h ⊢
  split at h
  all_goals first | exact h | (obtain ⟨B, h1, h3⟩ := h; exact ⟨B, h1, (hb.block _ (Array.getElem?_eq_some_iff.1 h3).1).trans h3⟩) | trivial

set_option maxHeartbeats 16000000 in
set_option maxRecDepth 60000 in
theorem spec_types (S : List G.Td) (D : List De) (aS : Option Addr) (cS : Nat) (aD : Option Addr) (cD : Nat) (w : World) (hSOK : G.SchOK S) (hSB : G.TdsBd 1048576 S) (hDB : DefsBd 1048576 D) (hdoc : docB D = true) (hsd : Sd w aS S aD D) :
    Calls Tryz.prog 42 #[.agg #[.slice aS S.length cS], .agg #[.slice aD D.length cD]] w fun e w' => e = .returned (.int .i64 (docC S D D)) ∧ Below w.heap.size w w' := by
  have HSOK : Hid (G.SchOK S) := hSOK
  have HSB : Hid (G.TdsBd 1048576 S) := hSB
  have HDB : Hid (DefsBd 1048576 D) := hDB
  have hSl : S.length ≤ 1048576 := hSB.1
  have hDl : D.length ≤ 1048576 := hDB.1
  have HOK : Hid (∀ x ∈ D, okS 7 x.sels = true) := doc_def hdoc
  have HKD : Hid (∀ x ∈ D, x.k = 1 ∨ x.k = 2 ∨ x.k = 3) := def_kind hdoc
  have K0 : Hid (∀ W0, Below w.heap.size w W0 → Sd W0 aS S aD D) := fun W0 hB => hsd.up hB
  have K0d : Hid (∀ W0, Below w.heap.size w W0 → DeRow 0 w.heap.size W0 aD D) := fun W0 hB => DeRow.keep hsd.rd (Below.agree hB (Nat.le_refl _))
  clear hSOK hSB hDB hdoc hsd
  go_enter Tryz.func42, Tryz.ntmps42
  go_wp2_with fail
  obtain ⟨W, hW⟩ : ∃ W, W = (w.alloc (.cells #[.slice aS S.length cS] 59)).alloc (.cells #[.slice aD D.length cD] 33) := ⟨_, rfl⟩
  rw [← hW]
  have zW : W.heap.size = w.heap.size + 2 := by rw [hW]; simp
  have B0 : Hid (Below w.heap.size w W) := by rw [hW]; exact ((Below.refl _ _).alloc (Nat.le_refl _) _).alloc (by simp) _
  have A0 : Hid (W.heap[w.heap.size]? = some (.cells #[.slice aS S.length cS] 59 (0, 0))) := by rw [Hid, hW, Below.heap_alloc _ _ _ (by simp)]; exact heap_alloc_new _ _
  have A1 : Hid (W.heap[w.heap.size + 1]? = some (.cells #[.slice aD D.length cD] 33 (0, 0))) := by
    rw [Hid, hW]
    have := heap_alloc_new (w.alloc (.cells #[.slice aS S.length cS] 59)) (.cells #[.slice aD D.length cD] 33)
    simpa using this
  clear hW
  go_loopw [5] (fun i w' => ∃ (k : Nat), k ≤ D.length ∧ i = .int .i64 k ∧ Hid (Below W.heap.size W w') ∧ Hid (docC S D D = docC S D (D.drop k))) (fun i _ => D.length - (intOf i).toNat)
  case atStart => exact ⟨0, by omega, rfl, Below.refl _ _, rfl⟩
  case round =>
    obtain ⟨k, hk, rfl, HK, HE⟩ := hrel
    have zr := HK.out.size
    have QR : Hid (Below w.heap.size w wr) := B0.out.trans (HK.out.mono (by omega))
    have q1 := fun o => row_cell ((HK.out.block (w.heap.size + 1) (by omega)).trans A1.out) o
    by_cases hlt : k < D.length
    case neg =>
      have HN : Hid (0 = docC S D D) := by rw [Hid, HE.out, docC_end hlt]
      clear HE
      go_wp2_with fail
      go_ret
      exact ⟨ret_i HN.out, QR.out⟩
    have HEX : Hid (docC S D D = if defC S D D[k] = 0 then docC S D (D.drop (k + 1)) else defC S D D[k]) := by rw [Hid, HE.out, docC_here hlt]
    obtain ⟨b, o, a3, c3, ha, _, hbl, d0, d1, d2, d3, r3⟩ := DeRow.cells (K0d.out _ QR.out) k hlt
    obtain ⟨kk, hkk, hk4, hnm⟩ := kind_name (HKD.out _ (List.getElem_mem hlt))
    rw [hkk] at d0
    have HA' : Hid (aD = some ⟨b, o, none⟩) := ha
    have HNM : Hid ((namesV D[k].on)[kk]? = some (.string (tyNm D[k]))) := hnm
    have R3 : Hid (SelRow 0 w.heap.size wr a3 D[k].sels) := r3
    obtain ⟨x1, x2, x3, x4⟩ := HDB.out.2 _ (List.getElem_mem hlt)
    have X4 : Hid (SelsBd 1048576 D[k].sels) := x4
    have OK3 : Hid (okS 7 D[k].sels = true) := HOK.out _ (List.getElem_mem hlt)
    have hkI : (k : Int) < D.length := by omega
    have hk4I : (kk : Int) < 4 := by omega
    clear r3 x4 HE ha hnm hkk d1
    go_wp2_with fail
    refine G.region_rel (n := 15) (by kernel_rfl) (by kernel_rfl) (by kernel_rfl) (fun u => ⟨#[.agg #[.slice aS S.length cS], .agg #[.slice aD D.length cD], .pointer (some ⟨w.heap.size, 0, none⟩), .pointer (some ⟨w.heap.size + 1, 0, none⟩), u4, .int .i64 k, u6, u7, .int .i64 k, .pointer (some ⟨w.heap.size + 1, 0, none⟩), .slice aD D.length cD, .int .i64 D.length, .bool true, u13, u14, u 15, u 16, u 17, u 18, u 19, u 20, u 21, u 22, u 23, u 24, u 25, u 26, u 27, u 28, u 29, u30, u31, u32, u33, u34, u35, u36, u37, u38, u39, u40, u41, u42, u43, u44, u45, u46], []⟩) (fun n => match n with | 15 => u15 | 16 => u16 | 17 => u17 | 18 => u18 | 19 => u19 | 20 => u20 | 21 => u21 | 22 => u22 | 23 => u23 | 24 => u24 | 25 => u25 | 26 => u26 | 27 => u27 | 28 => u28 | 29 => u29 | _ => undef) (fun i => 15 + i) (fun i j _ _ h => by omega) (PK (w.heap.size + 1) aD D.length cD k ⟨b, o + k * 4, none⟩ ⟨b, o + k * 4 + 2, none⟩ D[k].on kk (tyNm D[k])) (fun _ _ => True) (PK.up _ _ _ _ _ _ _ _ _ _) trivial ?step ?last
    case step =>
      intro u w2 i hi hbw _ hdep
      have zw2 := hbw.size
      have y1 := fun o => row_cell ((hbw.block (w.heap.size + 1) (by omega)).trans ((HK.out.block (w.heap.size + 1) (by omega)).trans A1.out)) o
      have v0 := (hbw.cell (p := ⟨b, o + k * 4, none⟩) (show b < wr.heap.size by omega)).trans d0
      have v2 := (hbw.cell (p := ⟨b, o + k * 4 + 2, none⟩) (show b < wr.heap.size by omega)).trans d2
      clear d0 d2 d3 q1
      clear hbw
      have hcase : i = 0 ∨ i = 1 ∨ i = 2 ∨ i = 3 ∨ i = 4 ∨ i = 5 ∨ i = 6 ∨ i = 7 ∨ i = 8 ∨ i = 9 ∨ i = 10 ∨ i = 11 ∨ i = 12 ∨ i = 13 ∨ i = 14 := by omega
      rcases hcase with rfl | rfl | rfl | rfl | rfl | rfl | rfl | rfl | rfl | rfl | rfl | rfl | rfl | rfl | rfl
      · refine wpOp_step rfl (fun K hK => ?_)
        clear hdep
        go_simp
        exact hK _ _ ⟨_, rfl, Below.refl _ _, rfl, trivial⟩
      · have d0 : u 15 = .pointer (some ⟨w.heap.size + 1, 0, none⟩) := hdep _ rfl ⟨0, .data⟩ (by simp) rfl
        refine wpOp_step rfl (fun K hK => ?_)
        clear hdep
        go_simp
        exact hK _ _ ⟨_, by simp [G.upd, d0], Below.refl _ _, rfl, trivial⟩
      · refine wpOp_step rfl (fun K hK => ?_)
        clear hdep
        go_simp
        exact hK _ _ ⟨_, rfl, Below.refl _ _, rfl, trivial⟩
      · have d1 : u 16 = .slice aD D.length cD := hdep _ rfl ⟨1, .data⟩ (by simp) rfl
        have d2 : u 17 = .int .i64 k := hdep _ rfl ⟨2, .data⟩ (by simp) rfl
        rw [HA'.out] at d1
        refine wpOp_step rfl (fun K hK => ?_)
        clear hdep
        go_simp
        exact hK _ _ ⟨.pointer (some ⟨b, o + k * 4, none⟩), by simp [G.upd, d1, d2], Below.refl _ _, rfl, trivial⟩
      · have d3 : u 18 = .pointer (some ⟨b, o + k * 4, none⟩) := hdep _ rfl ⟨3, .data⟩ (by simp) rfl
        refine wpOp_step rfl (fun K hK => ?_)
        clear hdep
        go_simp
        exact hK _ _ ⟨_, by simp [G.upd, d3], Below.refl _ _, rfl, trivial⟩
      · have d4 : u 19 = .pointer (some ⟨b, o + k * 4 + 2, none⟩) := hdep _ rfl ⟨4, .data⟩ (by simp) rfl
        refine wpOp_step rfl (fun K hK => ?_)
        clear hdep
        go_simp
        exact hK _ _ ⟨_, by simp [G.upd, d4], Below.refl _ _, rfl, trivial⟩
      · have d5 : u 20 = .string D[k].on := hdep _ rfl ⟨5, .data⟩ (by simp) rfl
        refine wpOp_step rfl (fun K hK => ?_)
        clear hdep
        go_simp
        exact hK _ _ ⟨.slice (some ⟨w2.heap.size, 0, none⟩) 4 4, by simp [G.upd, d5], (Below.refl _ _).alloc (Nat.le_refl _) _, ⟨w2.heap.size, rfl, heap_alloc_new _ _⟩, trivial⟩
      · refine wpOp_step rfl (fun K hK => ?_)
        clear hdep
        go_simp
        exact hK _ _ ⟨_, rfl, Below.refl _ _, rfl, trivial⟩
      · have d7 : u 22 = .pointer (some ⟨w.heap.size + 1, 0, none⟩) := hdep _ rfl ⟨7, .data⟩ (by simp) rfl
        refine wpOp_step rfl (fun K hK => ?_)
        clear hdep
        go_simp
        exact hK _ _ ⟨_, by simp [G.upd, d7], Below.refl _ _, rfl, trivial⟩
      · refine wpOp_step rfl (fun K hK => ?_)
        clear hdep
        go_simp
        exact hK _ _ ⟨_, rfl, Below.refl _ _, rfl, trivial⟩
      · have d8 : u 23 = .slice aD D.length cD := hdep _ rfl ⟨8, .data⟩ (by simp) rfl
        have d9 : u 24 = .int .i64 k := hdep _ rfl ⟨9, .data⟩ (by simp) rfl
        rw [HA'.out] at d8
        refine wpOp_step rfl (fun K hK => ?_)
        clear hdep
        go_simp
        exact hK _ _ ⟨.pointer (some ⟨b, o + k * 4, none⟩), by simp [G.upd, d8, d9], Below.refl _ _, rfl, trivial⟩
      · have d10 : u 25 = .pointer (some ⟨b, o + k * 4, none⟩) := hdep _ rfl ⟨10, .data⟩ (by simp) rfl
        refine wpOp_step rfl (fun K hK => ?_)
        clear hdep
        go_simp
        exact hK _ _ ⟨_, by simp [G.upd, d10], Below.refl _ _, rfl, trivial⟩
      · have d11 : u 26 = .pointer (some ⟨b, o + k * 4, none⟩) := hdep _ rfl ⟨11, .data⟩ (by simp) rfl
        refine wpOp_step rfl (fun K hK => ?_)
        clear hdep
        go_simp
        exact hK _ _ ⟨_, by simp [G.upd, d11], Below.refl _ _, rfl, trivial⟩
      · have d12 : u 27 = .int .i64 kk := hdep _ rfl ⟨12, .data⟩ (by simp) rfl
        have p6 : PK (w.heap.size + 1) aD D.length cD k ⟨b, o + k * 4, none⟩ ⟨b, o + k * 4 + 2, none⟩ D[k].on kk (tyNm D[k]) 6 (u 21) w2 := hdep _ rfl ⟨6, .data⟩ (by simp) rfl
        obtain ⟨B, e1, e2⟩ := p6
        refine wpOp_step rfl (fun K hK => ?_)
        clear hdep
        go_simp
        exact hK _ _ ⟨.pointer (some ⟨B, kk, none⟩), by simp [G.upd, d12, e1], Below.refl _ _, ⟨B, rfl, e2⟩, trivial⟩
      · have p13 : PK (w.heap.size + 1) aD D.length cD k ⟨b, o + k * 4, none⟩ ⟨b, o + k * 4 + 2, none⟩ D[k].on kk (tyNm D[k]) 13 (u 28) w2 := hdep _ rfl ⟨13, .data⟩ (by simp) rfl
        obtain ⟨B, e1, e2⟩ := p13
        have cB := (row_cell e2 kk).trans HNM.out
        refine wpOp_step rfl (fun K hK => ?_)
        clear hdep
        go_simp
        exact hK _ _ ⟨.string (tyNm D[k]), by simp [G.upd, e1], Below.refl _ _, rfl, trivial⟩
    case last =>
      intro u w2 hbw _ hp
      have d14 : u 29 = .string (tyNm D[k]) := hp 14 (by omega)
      have zl := hbw.size
      have QL : Hid (Below w.heap.size w w2) := QR.out.trans (hbw.mono (by omega))
      have WL : Hid (Below W.heap.size W w2) := HK.out.trans (hbw.mono (by omega))
      have y0 := fun o => row_cell ((WL.out.block w.heap.size (by omega)).trans A0.out) o
      have v3 := (hbw.cell (p := ⟨b, o + k * 4 + 3, none⟩) (show b < wr.heap.size by omega)).trans d3
      have R3L : Hid (SelRow 0 w.heap.size w2 a3 D[k].sels) := SelRow.keep R3.out (Below.agree hbw (by omega))
      clear hp hbw d0 d2 d3 q1
      refine wpOp_step rfl (fun K hK => ?_)
      go_simp
      refine hK _ _ ?_
      clear hK K
      obtain ⟨nm, hnmq⟩ : ∃ nm, nm = tyNm D[k] := ⟨_, rfl⟩
      have HNQ : Hid (nm = tyNm D[k]) := hnmq
      rw [← hnmq]
      rw [← hnmq] at d14
      clear hnmq HNM
      go_wp2_with fail
      refine (G.spec_find aS cS S nm _ (K0.out _ QL.out).rs hSl).mono ?_
      rintro e w3 ⟨r, rfl, hFi, hb3⟩
      have z3 := hb3.size
      have B3 : Hid (Below w2.heap.size w2 w3) := hb3
      have Q3 : Hid (Below w.heap.size w w3) := QL.out.trans (hb3.mono (by omega))
      have W3 : Hid (Below W.heap.size W w3) := WL.out.trans (hb3.mono (by omega))
      clear hb3 y0
      rcases hFi.neg with ⟨hr, hs⟩ | ⟨hr, hs⟩
      · have HN : Hid (12 = docC S D D) := by
          have h9 : tdIn S (tyNm D[k]) = none := by rw [← HNQ.out]; exact td_none (by rw [has_seen]; exact hs)
          rw [Hid, HEX.out]; unfold defC; rw [h9]; rfl
        clear hs HEX hFi
        go_wp2_with fail
        go_ret
        exact ⟨ret_i HN.out, Q3.out⟩
      obtain ⟨t, ht, htn⟩ := td_seen hs
      have HTT : Hid (nm = t.nm ∧ tdIn S t.nm = some t) := ⟨htn.symm, by rw [htn]; exact ht⟩
      obtain ⟨y, hy⟩ : ∃ y, y = setC S D t D[k].sels := ⟨_, rfl⟩
      have HY : Hid (y = setC S D t D[k].sels) := hy
      have HEY : Hid (docC S D D = if y = 0 then docC S D (D.drop (k + 1)) else y) := by
        have h9 : defC S D D[k] = y := by unfold defC; rw [← HNQ.out, ht, hy]
        rw [Hid, HEX.out, h9]
      have R33 : Hid (SelRow 0 w.heap.size w3 a3 D[k].sels) := SelRow.keep R3L.out (Below.agree B3.out (by omega))
      have g3 := (B3.out.cell (p := ⟨b, o + k * 4 + 3, none⟩) (show b < w2.heap.size by omega)).trans v3
      clear hs hFi ht htn hy HEX v3 HNQ
      go_wp2_with fail
      refine G.region_rel (n := 10) (by kernel_rfl) (by kernel_rfl) (by kernel_rfl) (fun ub => ⟨#[.agg #[.slice aS S.length cS], .agg #[.slice aD D.length cD], .pointer (some ⟨w.heap.size, 0, none⟩), .pointer (some ⟨w.heap.size + 1, 0, none⟩), u4, .int .i64 k, .string nm, u7, .int .i64 k, .pointer (some ⟨w.heap.size + 1, 0, none⟩), .slice aD D.length cD, .int .i64 D.length, .bool true, u13, u14, u 15, u 16, u 17, u 18, u 19, u 20, u 21, u 22, u 23, u 24, u 25, u 26, u 27, u 28, .string nm, .agg #[.slice aS S.length cS], .string nm, .int .i64 r, .bool (decide (r < 0)), ub 34, ub 35, ub 36, ub 37, ub 38, ub 39, ub 40, ub 41, ub 42, ub 43, u44, u45, u46], []⟩) (fun n => match n with | 34 => u34 | 35 => u35 | 36 => u36 | 37 => u37 | 38 => u38 | 39 => u39 | 40 => u40 | 41 => u41 | 42 => u42 | 43 => u43 | _ => undef) (fun i => 34 + i) (fun i j _ _ h => by omega) (PEq (fun i => match i with | 0 => .agg #[.slice aS S.length cS] | 1 => .agg #[.slice aD D.length cD] | 2 => .string nm | 3 => .pointer (some ⟨w.heap.size + 1, 0, none⟩) | 4 => .slice aD D.length cD | 5 => .int .i64 k | 6 => .pointer (some ⟨b, o + k * 4, none⟩) | 7 => .pointer (some ⟨b, o + k * 4 + 3, none⟩) | 8 => .slice a3 D[k].sels.len c3 | 9 => .int .i64 y | _ => undef)) (fun _ _ => True) (PEq.up _) trivial ?step ?last
      case step =>
        intro ub w2 i hi hbw _ hdep
        have zw2 := hbw.size
        have y0 := fun o => row_cell ((hbw.block w.heap.size (by omega)).trans ((W3.out.block w.heap.size (by omega)).trans A0.out)) o
        have y1 := fun o => row_cell ((hbw.block (w.heap.size + 1) (by omega)).trans ((W3.out.block (w.heap.size + 1) (by omega)).trans A1.out)) o
        have v3 := (hbw.cell (p := ⟨b, o + k * 4 + 3, none⟩) (show b < w3.heap.size by omega)).trans g3
        have HBw : Hid (Below w.heap.size w w2) := Q3.out.trans (hbw.mono (by omega))
        have HBx : Hid (Below w3.heap.size w3 w2) := hbw
        clear g3
        clear hbw
        have hcase : i = 0 ∨ i = 1 ∨ i = 2 ∨ i = 3 ∨ i = 4 ∨ i = 5 ∨ i = 6 ∨ i = 7 ∨ i = 8 ∨ i = 9 := by omega
        rcases hcase with rfl | rfl | rfl | rfl | rfl | rfl | rfl | rfl | rfl | rfl
        · refine wpOp_step rfl (fun K hK => ?_)
          clear hdep
          go_simp
          exact hK _ _ ⟨_, rfl, Below.refl _ _, rfl, trivial⟩
        · refine wpOp_step rfl (fun K hK => ?_)
          clear hdep
          go_simp
          exact hK _ _ ⟨_, rfl, Below.refl _ _, rfl, trivial⟩
        · refine wpOp_step rfl (fun K hK => ?_)
          clear hdep
          go_simp
          exact hK _ _ ⟨_, rfl, Below.refl _ _, rfl, trivial⟩
        · refine wpOp_step rfl (fun K hK => ?_)
          clear hdep
          go_simp
          exact hK _ _ ⟨_, rfl, Below.refl _ _, rfl, trivial⟩
        · have d3 : ub 37 = .pointer (some ⟨w.heap.size + 1, 0, none⟩) := hdep _ rfl ⟨3, .data⟩ (by simp) rfl
          refine wpOp_step rfl (fun K hK => ?_)
          clear hdep
          go_simp
          exact hK _ _ ⟨_, by simp [G.upd, d3], Below.refl _ _, rfl, trivial⟩
        · refine wpOp_step rfl (fun K hK => ?_)
          clear hdep
          go_simp
          exact hK _ _ ⟨_, rfl, Below.refl _ _, rfl, trivial⟩
        · have d4 : ub 38 = .slice aD D.length cD := hdep _ rfl ⟨4, .data⟩ (by simp) rfl
          have d5 : ub 39 = .int .i64 k := hdep _ rfl ⟨5, .data⟩ (by simp) rfl
          rw [HA'.out] at d4
          refine wpOp_step rfl (fun K hK => ?_)
          clear hdep
          go_simp
          exact hK _ _ ⟨.pointer (some ⟨b, o + k * 4, none⟩), by simp [G.upd, d4, d5], Below.refl _ _, rfl, trivial⟩
        · have d6 : ub 40 = .pointer (some ⟨b, o + k * 4, none⟩) := hdep _ rfl ⟨6, .data⟩ (by simp) rfl
          refine wpOp_step rfl (fun K hK => ?_)
          clear hdep
          go_simp
          exact hK _ _ ⟨_, by simp [G.upd, d6], Below.refl _ _, rfl, trivial⟩
        · have d7 : ub 41 = .pointer (some ⟨b, o + k * 4 + 3, none⟩) := hdep _ rfl ⟨7, .data⟩ (by simp) rfl
          refine wpOp_step rfl (fun K hK => ?_)
          clear hdep
          go_simp
          exact hK _ _ ⟨_, by simp [G.upd, d7], Below.refl _ _, rfl, trivial⟩
        · have d0 : ub 34 = .agg #[.slice aS S.length cS] := hdep _ rfl ⟨0, .data⟩ (by simp) rfl
          have d1 : ub 35 = .agg #[.slice aD D.length cD] := hdep _ rfl ⟨1, .data⟩ (by simp) rfl
          have d2 : ub 36 = .string nm := hdep _ rfl ⟨2, .data⟩ (by simp) rfl
          have d8 : ub 42 = .slice a3 D[k].sels.len c3 := hdep _ rfl ⟨8, .data⟩ (by simp) rfl
          refine wpOp_step rfl (fun K hK => ?_)
          clear hdep
          go_simp
          refine (spec_set S D HSOK.out HSB.out HDB.out D[k].sels 7 nm t a3 c3 aS cS aD cD _ (.inr HTT.out) (K0.out _ HBw.out) (SelRow.wide (SelRow.keep R33.out (Below.agree HBx.out (by omega))) (Nat.le_refl _) (by omega)) x3 X4.out OK3.out).mono ?_
          rintro e w8 ⟨rfl, hb8⟩
          rw [← HY.out]
          exact hK _ _ ⟨.int .i64 y, by simp [G.upd, d0, d1, d2, d8], hb8, rfl, trivial⟩
      case last =>
        intro ub w2 hbw _ hp
        have d9 : ub 43 = .int .i64 y := hp 9 (by omega)
        have QZ : Hid (Below w.heap.size w w2) := Q3.out.trans (hbw.mono (by omega))
        have WZ : Hid (Below W.heap.size W w2) := W3.out.trans (hbw.mono (by omega))
        clear hp hbw g3
        refine wpOp_step rfl (fun K hK => ?_)
        go_simp
        refine hK _ _ ?_
        clear hK K
        by_cases hz : y = 0
        · have HN : Hid (docC S D D = docC S D (D.drop (k + 1))) := by rw [Hid, HEY.out, if_pos hz]
          subst hz
          clear HEY
          go_wp2_with fail
          exact ⟨⟨k + 1, by omega, by go_num, WZ, HN⟩, by simp [intOf]; omega⟩
        · have HN : Hid (y = docC S D D) := by rw [Hid, HEY.out, if_neg hz]
          have hz' : (y == 0) = false := by rw [beq_eq_false_iff_ne]; exact hz
          clear HEY
          go_wp2_with fail
          go_ret
          exact ⟨ret_i HN.out, QZ.out⟩

end Go.Proofs.YtkjndghkimnjeaaGreat
