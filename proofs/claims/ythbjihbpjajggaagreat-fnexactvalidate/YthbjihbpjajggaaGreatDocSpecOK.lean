/- The specification's test of a document. -/
import Derived.Test.YthbjihbpjajggaaGreatDocSpecTwo
import Derived.Test.YthbjihbpjajggaaGreatTySet
import Derived.Test.YthbjihbpjajggaaGreatGRegionThree
namespace Go.Proofs.YthbjihbpjajggaaGreat
open Go.ChangeShapes Go.WideShapes Go.ChangeAt Go.RowKit
set_option linter.unusedVariables false

theorem doc_no_def {l : List De} {k : Nat} (hk : k < l.length) (h : defB l[k] = false) : docB l = false := by
  unfold docB; rw [all_no_b hk h]; simp
theorem doc_many {l : List De} {k : Nat} (hk : k < l.length) (h : 60 < sizeL (l.take k) + l[k].sels.size) : docB l = false := by
  have h1 := sizeL_take hk
  have h2 := sizeL_le l (k + 1)
  have : ¬ sizeL l ≤ 60 := by omega
  unfold docB; simp [this]
theorem doc_len {l : List De} (h : ¬ (1 ≤ l.length ∧ l.length ≤ 6)) : docB l = false := by
  unfold docB
  by_cases h1 : 1 ≤ l.length
  · have : ¬ l.length ≤ 6 := fun h2 => h ⟨h1, h2⟩
    simp [this]
  · simp [h1]
theorem doc_yes {l : List De} (h : 1 ≤ l.length ∧ l.length ≤ 6) (ha : l.all defB = true) (hs : sizeL l ≤ 60) : docB l = true := by
  unfold docB; rw [ha]; simp [h.1, h.2, hs]
theorem takes_no {l : List De} {k : Nat} (hk : k < l.length) (h : takesB 7 (60 - (sizeL (l.take k) : Int)) l[k].sels = false) : docB l = false := by
  unfold takesB at h
  simp only [Bool.and_eq_false_iff] at h
  rcases h with (h | h) | h
  · exact doc_no_def hk (by unfold defB; rw [h]; simp)
  · exact doc_no_def hk (by unfold defB; rw [h]; simp)
  · simp only [decide_eq_false_iff_not] at h
    exact doc_many hk (by omega)

set_option maxHeartbeats 4000000 in
set_option maxRecDepth 40000 in
theorem impl_doc (a : Option Addr) (c : Nat) (l : List De) (w : World) (hr : DeRow 0 w.heap.size w a l) (hl : l.length ≤ 1048576) (ht : ∀ x ∈ l, DeBd 1048576 x) :
    Calls Tryz.prog 20 #[.agg #[.slice a l.length c]] w fun e w' => e = .returned (.bool (docB l)) ∧ Below w.heap.size w w' := by
  have B0 : Hid (Below w.heap.size w (w.alloc (.cells #[.slice a l.length c] 38))) := (Below.refl _ _).alloc (Nat.le_refl _) _
  have HR : Hid (DeRow 0 w.heap.size w a l) := hr
  have HT : Hid (∀ x ∈ l, DeBd 1048576 x) := ht
  clear hr ht
  by_cases g1 : l.length < 1
  · have HN : Hid (docB l = false) := doc_len (by omega)
    clear HR HT
    go_enter Tryz.func20, Tryz.ntmps20
    go_wp2_with fail
    go_ret
    exact ⟨ret_bool HN.out.symm, B0.out⟩
  by_cases g2 : 6 < l.length
  · have HN : Hid (docB l = false) := doc_len (by omega)
    clear HR HT
    go_enter Tryz.func20, Tryz.ntmps20
    go_wp2_with fail
    go_ret
    exact ⟨ret_bool HN.out.symm, B0.out⟩
  have HS : Hid (Room ((w.alloc (.cells #[.slice a l.length c] 38)).alloc (.cells #[.int .i64 60] 91)) (w.heap.size + 1) (60 - ((0 : Nat) : Int))) := by
    have h1 := heap_alloc_new (w.alloc (.cells #[.slice a l.length c] 38)) (.cells #[.int .i64 60] 91)
    rw [show (w.alloc (.cells #[.slice a l.length c] 38)).heap.size = w.heap.size + 1 by simp] at h1
    exact h1
  go_enter Tryz.func20, Tryz.ntmps20
  go_wp2_with fail
  go_loopw [20] (fun i w' => ∃ (k s : Nat), k ≤ l.length ∧ i = .int .i64 k ∧ Below w.heap.size w w' ∧ Hid (s = sizeL (l.take k)) ∧ s ≤ 60 ∧ Hid (Room w' (w.heap.size + 1) (60 - (s : Int))) ∧ Hid ((l.take k).all defB = true)) (fun i _ => l.length - (intOf i).toNat)
  case atStart => exact ⟨0, 0, by omega, rfl, B0.out.alloc (by simp) _, rfl, by omega, HS, rfl⟩
  case round =>
    rename_i wr
    obtain ⟨k, s, hk, rfl, hb, HZ, hs, HO, HA⟩ := hrel
    by_cases hlt : k < l.length
    · obtain ⟨b, o, a3, c3, ha, _, hbl, d0, d1, d2, d3, r3⟩ := DeRow.cells (DeRow.keep HR.out (Below.agree hb (Nat.le_refl _))) k hlt
      subst ha
      have HX : Hid (DeBd 1048576 l[k]) := HT.out l[k] (List.getElem_mem hlt)
      have hRr := HO.out.lt
      have K3 : Hid (∀ W0, Below (w.heap.size + 2) wr W0 → SelRow 0 (w.heap.size + 1) W0 a3 l[k].sels) := fun W0 hB => (SelRow.keep r3 (Below.agree hB (by omega))).wide (Nat.le_refl _) (by omega)
      clear r3
      go_wp2_with fail
      refine (impl_head l[k] l[k].sels.len a3 c3 _ (by have := HX.out.1; unfold maxLen; omega) (by have := HX.out.2.1; unfold maxLen; omega)).mono ?_
      cases hh : headB l[k]
      · rintro e w1 ⟨rfl, hb1⟩
        have HN : Hid (docB l = false) := doc_no_def hlt (by unfold defB; rw [hh]; rfl)
        have q1 : Hid (Below w.heap.size w w1) := by
          refine hb.trans (Below.trans ?_ (hb1.mono (by first | omega | (simp <;> omega))))
          repeat (first | exact Below.refl _ _ | refine Below.setCell ?_ (by first | omega | (simp <;> omega)) _ | refine Below.alloc ?_ (by first | omega | (simp <;> omega)) _)
        go_wp2_with fail
        go_ret
        exact ⟨ret_bool HN.out.symm, q1.out⟩
      · rintro e w1 ⟨rfl, hb1⟩
        have p1 : Below (w.heap.size + 2) wr w1 := by
          refine Below.trans ?_ (hb1.mono (by first | omega | (simp <;> omega)))
          repeat (first | exact Below.refl _ _ | refine Below.setCell ?_ (by first | omega | (simp <;> omega)) _ | refine Below.alloc ?_ (by first | omega | (simp <;> omega)) _)
        have P1 : Hid _ := p1
        have HO3 : Hid (Room w1 (w.heap.size + 1) (60 - (s : Int))) := HO.out.keep p1 (by omega)
        have k0 := fun o => hb1.cell (p := ⟨wr.heap.size, o, none⟩) (by first | omega | (simp <;> omega))
        have Q1 : Hid (Below w.heap.size w w1) := hb.trans (p1.mono (by omega))
        clear hb1 p1
        go_wp2_with fail
        refine (impl_takes l[k].sels (w.heap.size + 1) a3 c3 7 1 (60 - (s : Int)) _ HO3.out (K3.out _ P1.out) HX.out.2.2.1 HX.out.2.2.2 (by omega) (by omega) (by omega) (by omega)).mono ?_
        cases ht : takesB 7 (60 - (s : Int)) l[k].sels
        · rintro e w2 ⟨rfl, hb2, _⟩
          have HN : Hid (docB l = false) := takes_no hlt (by rw [← HZ.out]; exact ht)
          go_wp2_with fail
          go_ret
          exact ⟨ret_bool HN.out.symm, Q1.out.trans (hb2.mono (by omega))⟩
        · rintro e w2 ⟨rfl, hb2, hr2⟩
          have ht' := ht
          simp only [takesB, Bool.and_eq_true, decide_eq_true_eq] at ht'
          have HR2 : Hid (Room w2 (w.heap.size + 1) (60 - ((s + l[k].sels.size : Nat) : Int))) := by
            have := hr2 rfl
            rwa [show (60 : Int) - (s : Int) - (l[k].sels.size : Int) = 60 - ((s + l[k].sels.size : Nat) : Int) by omega] at this
          have HN : Hid ((l.take (k + 1)).all defB = true) := all_take_b hlt HA.out (by unfold defB; rw [hh, ht'.1.1, ht'.1.2]; rfl)
          have HZ2 : Hid (s + l[k].sels.size = sizeL (l.take (k + 1))) := by rw [Hid, sizeL_take hlt, HZ.out]
          have hle := ht'.2
          have hle2 : s + l[k].sels.size ≤ 60 := by omega
          clear hr2 ht'
          go_wp2_with fail
          go_roundw
          case rel => exact ⟨k + 1, s + l[k].sels.size, by omega, by go_num, Q1.out.trans (hb2.mono (by omega)), HZ2, hle2, HR2, HN⟩
          case measure => simp [intOf]; omega
    · have HN : Hid (docB l = true) := by
        have h1 := HA.out
        have h2 := HZ.out
        rw [List.take_of_length_le (by omega)] at h1 h2
        exact doc_yes (by omega) h1 (by omega)
      go_wp2_with fail
      go_ret
      exact ⟨ret_bool HN.out.symm, hb⟩
end Go.Proofs.YthbjihbpjajggaaGreat
namespace Go.Proofs.YthbjihbpjajggaaGreat
open Go.ChangeShapes Go.WideShapes Go.ChangeAt Go.RowKit Go.Maps
set_option linter.unusedVariables false

theorem docC_here {S : List G.Td} {D : List De} {L : List De} {k : Nat} (hk : k < L.length) : docC S D (L.drop k) = if defC S D L[k] = 0 then docC S D (L.drop (k + 1)) else defC S D L[k] := by
  rw [List.drop_eq_getElem_cons hk]; rfl
theorem docC_end {S : List G.Td} {D : List De} {L : List De} {k : Nat} (hk : ¬ k < L.length) : docC S D (L.drop k) = 0 := by
  rw [List.drop_of_length_le (by omega)]; rfl
theorem doc_def {D : List De} (h : docB D = true) : ∀ x ∈ D, okS 7 x.sels = true := by
  unfold docB at h
  simp only [Bool.and_eq_true] at h
  intro x hx
  have := (List.all_eq_true.1 h.1.2) x hx
  unfold defB at this
  rw [Bool.and_eq_true] at this
  exact this.2
theorem tyNm_size {x : De} (h : x.on.size ≤ 1048576) : (tyNm x).size ≤ maxLen := by
  unfold tyNm
  split
  · decide
  · split
    · decide
    · unfold maxLen; omega

/-- What the operations leave that look a definition's type up. -/
def PT (M Z Bt : Nat) (fv : Value) (n : ByteArray) (t' : G.Td) (a8 : Option Addr) (c8 : Nat) (bo : Bool) (i : Nat) (v : Value) (wx : World) : Prop :=
  match i with
  | 0 => v = .pointer (some ⟨M, 0, none⟩)
  | 1 => v = .map (some Bt)
  | 2 => v = fv
  | 3 => v = .string n
  | 4 => v = .tuple #[.agg #[.string t'.nm, .slice a8 t'.fs.length c8], .bool bo]
  | 5 => v = .tuple #[.agg #[.string t'.nm, .slice a8 t'.fs.length c8], .bool bo]
  | 6 => v = .agg #[.string t'.nm, .slice a8 t'.fs.length c8]
  | 7 => v = .bool bo
  | 8 => ∃ B cs, v = .pointer (some ⟨B, 0, none⟩) ∧ Z ≤ B ∧ wx.heap[B]? = some (.cells cs 66 (0, 0)) ∧ cs.size = 2
  | 9 => ∃ B, v = .pointer (some ⟨B, 0, none⟩) ∧ Z ≤ B ∧ wx.heap[B]? = some (.cells #[.string t'.nm, .slice a8 t'.fs.length c8] 66 (0, 0))
  | _ => True
theorem PT.up {M Z Bt : Nat} {fv : Value} {n : ByteArray} {t' : G.Td} {a8 : Option Addr} {c8 : Nat} {bo : Bool} {w w' : World} (hb : Below w.heap.size w w') : ∀ i v, PT M Z Bt fv n t' a8 c8 bo i v w → PT M Z Bt fv n t' a8 c8 bo i v w' := by
  intro i v h
  have lt : ∀ {B : Nat} {o : Obj}, w.heap[B]? = some o → B < w.heap.size := fun h => (Array.getElem?_eq_some_iff.1 h).1
  unfold PT at h ⊢
  split at h
  · exact h
  · exact h
  · exact h
  · exact h
  · exact h
  · exact h
  · exact h
  · exact h
  · obtain ⟨B, cs, h1, h2, h3, h4⟩ := h; exact ⟨B, cs, h1, h2, (hb.block _ (lt h3)).trans h3, h4⟩
  · obtain ⟨B, h1, h2, h3⟩ := h; exact ⟨B, h1, h2, (hb.block _ (lt h3)).trans h3⟩
  · trivial
/-- .. and by the store of what was found. -/
theorem PT.set {M Z Bt : Nat} {fv : Value} {n : ByteArray} {t' : G.Td} {a8 : Option Addr} {c8 : Nat} {bo : Bool} {w : World} {B : Nat} {cs : Array Value} (hB : w.heap[B]? = some (.cells cs 66 (0, 0))) (hs : cs.size = 2) :
    ((w.setCell ⟨B, 0, none⟩ (.string t'.nm)).setCell ⟨B, 1, none⟩ (.slice a8 t'.fs.length c8)).heap[B]? = some (.cells #[.string t'.nm, .slice a8 t'.fs.length c8] 66 (0, 0)) ∧
    ∀ i v, PT M Z Bt fv n t' a8 c8 bo i v w → PT M Z Bt fv n t' a8 c8 bo i v ((w.setCell ⟨B, 0, none⟩ (.string t'.nm)).setCell ⟨B, 1, none⟩ (.slice a8 t'.fs.length c8)) := by
  have key : ((w.setCell ⟨B, 0, none⟩ (.string t'.nm)).setCell ⟨B, 1, none⟩ (.slice a8 t'.fs.length c8)).heap[B]? = some (.cells #[.string t'.nm, .slice a8 t'.fs.length c8] 66 (0, 0)) := by
    have := row_set (row_set hB 0 (.string t'.nm)) 1 (.slice a8 t'.fs.length c8)
    rw [this]
    obtain ⟨l⟩ := cs
    match l, hs with
    | [x, y], _ => rfl
  have oth : ∀ g, g ≠ B → ((w.setCell ⟨B, 0, none⟩ (.string t'.nm)).setCell ⟨B, 1, none⟩ (.slice a8 t'.fs.length c8)).heap[g]? = w.heap[g]? := fun g hg => by
    rw [Below.heap_setCell _ _ _ _ hg, Below.heap_setCell _ _ _ _ hg]
  refine ⟨key, fun i v h => ?_⟩
  unfold PT at h ⊢
  split at h
  · exact h
  · exact h
  · exact h
  · exact h
  · exact h
  · exact h
  · exact h
  · exact h
  · obtain ⟨B', cs', h1, h2, h3, h4⟩ := h
    by_cases e : B' = B
    · subst e; exact ⟨B', _, h1, h2, key, rfl⟩
    · exact ⟨B', cs', h1, h2, (oth _ e).trans h3, h4⟩
  · obtain ⟨B', h1, h2, h3⟩ := h
    by_cases e : B' = B
    · subst e; exact ⟨B', h1, h2, key⟩
    · exact ⟨B', h1, h2, (oth _ e).trans h3⟩
  · trivial
def dstT (i : Nat) : Nat := if i < 5 then 22 + i else if i = 5 then 21 else if i = 6 then 27 else if i = 7 then 28 else if i = 8 then 8 else 100
theorem dstT_one : ∀ i j, i < 10 → j < 10 → dstT i = dstT j → i = j := by
  intro i j hi hj h
  unfold dstT at h
  repeat' split at h
  all_goals omega
def JT (L : Array Bool) (u : Nat → Value) (w : World) : Prop := L.getD 9 false = true → L.getD 8 false = true ∧ ∀ p, u 100 = .pointer p → u 8 = .pointer p
theorem JT.start (n : Nat) (u : Nat → Value) (w : World) : JT (Array.replicate n false) u w := by
  intro h
  rw [Array.getD_eq_getD_getElem?, Array.getElem?_replicate] at h
  split at h <;> simp at h
theorem JT.else_ {L : Array Bool} {u : Nat → Value} {w w' : World} (h : JT L u w) {i d : Nat} {v : Value} (i8 : i ≠ 8) (i9 : i ≠ 9) (h1 : d ≠ 100) (h2 : d ≠ 8) : JT (L.setIfInBounds i true) (G.upd u d v) w' := by
  unfold JT at h ⊢
  rw [G.upd_ne _ _ (Ne.symm h1), G.upd_ne _ _ (Ne.symm h2), getD_set_ne false i8, getD_set_ne false i9]
  exact h
theorem JT.eight {L : Array Bool} {u : Nat → Value} {w w' : World} (h : JT L u w) {v : Value} (h8 : L.getD 8 true = false) : JT (L.setIfInBounds 8 true) (G.upd u 8 v) w' := by
  intro h9
  rw [getD_set_ne false (by omega)] at h9
  have := (h h9).1
  rw [G.getD_both (G.getD_lt h8) this] at h8
  cases h8
theorem JT.nine {L : Array Bool} {u : Nat → Value} {w' : World} {v : Value} (h8 : L.getD 8 false = true) (hv : u 8 = v) : JT (L.setIfInBounds 9 true) (G.upd u 100 v) w' := by
  intro _
  rw [getD_set_ne false (by omega), G.upd_at, G.upd_ne _ _ (by omega)]
  exact ⟨h8, fun p hp => hv.trans hp⟩

set_option maxHeartbeats 16000000 in
set_option maxRecDepth 60000 in
theorem types_fault (a : Option Addr) (c : Nat) (S : List G.Td) (a' : Option Addr) (c' : Nat) (D : List De) (w : World) (hS : G.TdRow 0 w.heap.size w a S) (hO : G.OkN (S.map G.Td.nm)) (hB : G.TdsBd 1048576 S) (hD : DeRow 0 w.heap.size w a' D) (hb : DefsBd 1048576 D) (hdoc : docB D = true) :
    Calls Tryz.prog 22 #[.agg #[.slice a S.length c], .agg #[.slice a' D.length c']] w fun e w' => e = .returned (.int .i64 (docC S D D)) ∧ Below w.heap.size w w' := by
  have HS : Hid (∀ W0, Below w.heap.size w W0 → G.TdRow 0 W0.heap.size W0 a S) := fun W0 hB => G.TdRow.up hS hB
  have HO : Hid (G.OkN (S.map G.Td.nm)) := hO
  have HB : Hid (G.TdsBd 1048576 S) := hB
  have K1 : Hid (∀ W0, Below w.heap.size w W0 → DeRow 0 W0.heap.size W0 a' D) := fun W0 hB => DeRow.up hD hB
  have HD : Hid (DefsBd 1048576 D) := hb
  have HOK : Hid (∀ x ∈ D, okS 7 x.sels = true) := doc_def hdoc
  have hl : D.length ≤ 1048576 := hb.1
  clear hS hO hB hD hb hdoc
  go_enter Tryz.func22, Tryz.ntmps22
  go_wp2_with fail
  obtain ⟨W, hW⟩ : ∃ W, W = (w.alloc (.cells #[.slice a S.length c] 34)).alloc (.cells #[.slice a' D.length c'] 38) := ⟨_, rfl⟩
  rw [← hW]
  have zW : W.heap.size = w.heap.size + 2 := by rw [hW]; simp
  have BW : Hid (Below w.heap.size w W) := by rw [hW]; exact ((Below.refl _ _).alloc (Nat.le_refl _) _).alloc (by simp) _
  have A1 : Hid (W.heap[w.heap.size + 1]? = some (.cells #[.slice a' D.length c'] 38 (0, 0))) := by
    rw [Hid, hW]
    have := heap_alloc_new (w.alloc (.cells #[.slice a S.length c] 34)) (.cells #[.slice a' D.length c'] 38)
    simpa using this
  clear hW
  refine (new_check a c S a' c' D _ (HS.out _ BW.out) HO.out HB.out (K1.out _ BW.out) HD.out).mono ?_
  rintro e w1 ⟨⟨Bt, Bf, R, rfl, hTc⟩, hb1⟩
  have HTC : Hid (Tc W w1 S D Bt Bf R) := hTc
  have z1 := hb1.size
  have A2 : Hid (w1.heap[w.heap.size + 1]? = some (.cells #[.slice a' D.length c'] 38 (0, 0))) := (hb1.block _ (by omega)).trans A1.out
  have p2 := fun ob o => (((Below.refl w1.heap.size w1).alloc (Nat.le_refl _) ob).cell (p := ⟨w.heap.size + 1, o, none⟩) (show w.heap.size + 1 < w1.heap.size by omega)).trans (row_cell A2.out o)
  have Q1 : Hid (Below w.heap.size w w1) := BW.out.trans (hb1.mono (by omega))
  clear hTc hb1 A1
  unfold tcV
  go_wp2_with fail
  obtain ⟨V, hV⟩ : ∃ V, V = w1.alloc (.cells #[.map (some Bt), .map (some Bf), .slice (some ⟨R, 0, none⟩) 7 7] 99) := ⟨_, rfl⟩
  rw [← hV]
  have zV : V.heap.size = w1.heap.size + 1 := by rw [hV]; simp
  have BV : Hid (Below w1.heap.size w1 V) := by rw [hV]; exact (Below.refl _ _).alloc (Nat.le_refl _) _
  have CV : Hid (V.heap[w1.heap.size]? = some (.cells #[.map (some Bt), .map (some Bf), .slice (some ⟨R, 0, none⟩) 7 7] 99 (0, 0))) := by rw [Hid, hV]; exact heap_alloc_new _ _
  have HTV : Hid (Tc W V S D Bt Bf R) := HTC.out.keep BV.out
  have QV : Hid (Below w.heap.size w V) := Q1.out.trans (BV.out.mono (by omega))
  clear hV p2 HTC A2
  go_loopw [17] (fun i w' => ∃ (k : Nat), k ≤ D.length ∧ i = .int .i64 k ∧ Hid (Below V.heap.size V w') ∧ Hid (docC S D D = docC S D (D.drop k))) (fun i _ => D.length - (intOf i).toNat)
  case atStart => exact ⟨0, by omega, rfl, Below.refl _ _, rfl⟩
  case round =>
    obtain ⟨k, hk, rfl, HK, HE⟩ := hrel
    have zr := HK.out.size
    have QR : Hid (Below w.heap.size w wr) := QV.out.trans (HK.out.mono (by omega))
    by_cases hlt : k < D.length
    case neg =>
      have HN : Hid (0 = docC S D D) := by rw [Hid, HE.out, docC_end hlt]
      clear HE
      go_wp2_with fail
      go_ret
      exact ⟨ret_i HN.out, QR.out⟩
    have HEX : Hid (docC S D D = if defC S D D[k] = 0 then docC S D (D.drop (k + 1)) else defC S D D[k]) := by rw [Hid, HE.out, docC_here hlt]
    obtain ⟨b, o, a3, c3, ha, _, hbl, d0, d1, d2, d3, r3⟩ := DeRow.cells (K1.out _ QR.out) k hlt
    subst ha
    have R3 : Hid (SelRow 0 wr.heap.size wr a3 D[k].sels) := r3
    obtain ⟨x1, x2, x3, x4⟩ := HD.out.2 _ (List.getElem_mem hlt)
    have X4 : Hid (SelsBd 1048576 D[k].sels) := x4
    have OK3 : Hid (okS 7 D[k].sels = true) := HOK.out _ (List.getElem_mem hlt)
    have hts := tyNm_size x2
    have HTR : Hid (Tc W wr S D Bt Bf R) := HTV.out.keep HK.out
    clear r3 x4 HE
    go_wp2_with fail
    obtain ⟨X, hX⟩ : ∃ X, X = wr.alloc (.cells #[.int .i64 D[k].k, .string D[k].nm, .string D[k].on, .slice a3 D[k].sels.len c3] 77) := ⟨_, rfl⟩
    rw [← hX]
    have zX : X.heap.size = wr.heap.size + 1 := by rw [hX]; simp
    have BX : Hid (Below wr.heap.size wr X) := by rw [hX]; exact (Below.refl _ _).alloc (Nat.le_refl _) _
    have FX : Hid (X.heap[wr.heap.size]? = some (.cells #[.int .i64 D[k].k, .string D[k].nm, .string D[k].on, .slice a3 D[k].sels.len c3] 77 (0, 0))) := by rw [Hid, hX]; exact heap_alloc_new _ _
    have CX : Hid (X.heap[w1.heap.size]? = some (.cells #[.map (some Bt), .map (some Bf), .slice (some ⟨R, 0, none⟩) 7 7] 99 (0, 0))) := ((BX.out.block _ (by omega)).trans (HK.out.block _ (by omega))).trans CV.out
    have HTX : Hid (Tc W X S D Bt Bf R) := HTR.out.keep BX.out
    have R3X : Hid (SelRow 0 X.heap.size X a3 D[k].sels) := SelRow.up R3.out BX.out
    obtain ⟨E, n, hown, hh, hat⟩ := HTX.out.ty.at_ (tyNm D[k])
    have hkey := key_of hts
    obtain ⟨t', a8, c8, bo, hu, hbo, hx⟩ : ∃ t' a8 c8 bo, E.atKey (.string (tyNm D[k]).toList) (.held (tdV td0 .none 0)) = .held (tdV t' a8 c8) ∧ Maps.has E (.string (tyNm D[k]).toList) = bo ∧ ((bo = false ∧ tdIn S (tyNm D[k]) = none) ∨ (bo = true ∧ tdIn S (tyNm D[k]) = some t' ∧ t' ∈ S ∧ G.FdRow 0 X.heap.size X a8 t'.fs)) := by
      rcases hat with ⟨h1, h2⟩ | ⟨x, hx, a, c, h1, h3, h2, h4⟩
      · exact ⟨td0, .none, 0, false, h2, by rw [hh, h1], .inl ⟨rfl, td_none h1⟩⟩
      · exact ⟨x, a, c, true, h2, by rw [hh, h3], .inr ⟨rfl, td_find HO.out hx h1, hx, G.FdRow.wide (G.FdRow.keep h4 (G.agree HTX.out.be (Nat.le_refl _))) (Nat.le_refl _) HTX.out.be.size⟩⟩
    have HXX : Hid ((bo = false ∧ tdIn S (tyNm D[k]) = none) ∨ (bo = true ∧ tdIn S (tyNm D[k]) = some t' ∧ t' ∈ S ∧ G.FdRow 0 X.heap.size X a8 t'.fs)) := hx
    have HOWN : Hid (∀ W0, Below X.heap.size X W0 → W0.ownsMap Tryz.prog 9 heldE Bt n E) := fun W0 hB => by
      obtain ⟨es, clock, h1, h2⟩ := hown
      exact ⟨es, clock, (hB.block _ HTX.out.ty.lt).trans h1, h2⟩
    clear hX hat hh hown hx d0 d1 d2 d3
    unfold tdV at hu
    refine G.region_rel3 (n := 10) (by kernel_rfl) (by kernel_rfl) (by kernel_rfl) (fun u => ⟨#[.agg #[.slice a S.length c], .agg #[.slice (some ⟨b, o, none⟩) D.length c'], .pointer (some ⟨w.heap.size, 0, none⟩), .pointer (some ⟨w.heap.size + 1, 0, none⟩), u4, .pointer (some ⟨w1.heap.size, 0, none⟩), undef, .pointer (some ⟨wr.heap.size, 0, none⟩), u 8, u9, u10, .agg #[.slice a S.length c], .agg #[.slice (some ⟨b, o, none⟩) D.length c'], .agg #[.map (some Bt), .map (some Bf), .slice (some ⟨R, 0, none⟩) 7 7], .pointer (some ⟨w.heap.size + 1, 0, none⟩), .slice (some ⟨b, o, none⟩) D.length c', .int .i64 D.length, .int .i64 k, .bool true, .pointer (some ⟨b, o + k * 4, none⟩), .agg #[.int .i64 D[k].k, .string D[k].nm, .string D[k].on, .slice a3 D[k].sels.len c3], u 21, u 22, u 23, u 24, u 25, u 26, u 27, u 28, u29, u30, u31, u32, u33, u34, u35, u36, u37, u38, u39], []⟩) (fun n => match n with | 8 => u8 | 21 => u21 | 22 => u22 | 23 => u23 | 24 => u24 | 25 => u25 | 26 => u26 | 27 => u27 | 28 => u28 | _ => undef) dstT dstT_one (PT w1.heap.size X.heap.size Bt (.agg #[.int .i64 D[k].k, .string D[k].nm, .string D[k].on, .slice a3 D[k].sels.len c3]) (tyNm D[k]) t' a8 c8 bo) JT (JT.start _ _ _) ?step ?last
    case step =>
      intro L u w2 i hi hLs hLi hbw hj hdep
      have z2 := hbw.size
      have HJ : Hid (JT L u w2) := hj
      have fw := fun o => row_cell ((hbw.block wr.heap.size (by omega)).trans FX.out) o
      have cw := row_cell ((hbw.block w1.heap.size (by omega)).trans CX.out) 0
      have hown := HOWN.out _ hbw
      clear hj hbw
      have upR : ∀ j x, PT w1.heap.size X.heap.size Bt (.agg #[.int .i64 D[k].k, .string D[k].nm, .string D[k].on, .slice a3 D[k].sels.len c3]) (tyNm D[k]) t' a8 c8 bo j x w2 → PT w1.heap.size X.heap.size Bt (.agg #[.int .i64 D[k].k, .string D[k].nm, .string D[k].on, .slice a3 D[k].sels.len c3]) (tyNm D[k]) t' a8 c8 bo j x w2 := fun _ _ h => h
      have hcase : i = 0 ∨ i = 1 ∨ i = 2 ∨ i = 3 ∨ i = 4 ∨ i = 5 ∨ i = 6 ∨ i = 7 ∨ i = 8 ∨ i = 9 := by omega
      rcases hcase with rfl | rfl | rfl | rfl | rfl | rfl | rfl | rfl | rfl | rfl
      · refine wpOp_step rfl (fun K hK => ?_)
        clear hdep
        go_simp
        exact hK _ _ ⟨_, rfl, Below.refl _ _, upR, rfl, HJ.out.else_ (by decide) (by decide) (by decide) (by decide)⟩
      · have d0 : u 22 = .pointer (some ⟨w1.heap.size, 0, none⟩) := (hdep _ rfl ⟨0, .data⟩ (by simp) rfl).2
        refine wpOp_step rfl (fun K hK => ?_)
        clear hdep
        go_simp
        exact hK _ _ ⟨_, by simp [G.upd, dstT, d0], Below.refl _ _, upR, rfl, HJ.out.else_ (by decide) (by decide) (by decide) (by decide)⟩
      · refine wpOp_step rfl (fun K hK => ?_)
        clear hdep
        go_simp
        exact hK _ _ ⟨_, rfl, Below.refl _ _, upR, rfl, HJ.out.else_ (by decide) (by decide) (by decide) (by decide)⟩
      · have d2 : u 24 = .agg #[.int .i64 D[k].k, .string D[k].nm, .string D[k].on, .slice a3 D[k].sels.len c3] := (hdep _ rfl ⟨2, .data⟩ (by simp) rfl).2
        refine wpOp_step rfl (fun K hK => ?_)
        clear hdep
        go_simp
        refine (type_def D[k] a3 D[k].sels.len c3 _).mono ?_
        rintro e w8 ⟨rfl, hb8⟩
        exact hK _ _ ⟨_, by simp [G.upd, dstT, d2], hb8.mono z2, PT.up hb8, rfl, HJ.out.else_ (by decide) (by decide) (by decide) (by decide)⟩
      · have d1 : u 23 = .map (some Bt) := (hdep _ rfl ⟨1, .data⟩ (by simp) rfl).2
        have d3 : u 25 = .string (tyNm D[k]) := (hdep _ rfl ⟨3, .data⟩ (by simp) rfl).2
        obtain ⟨v, ps, hrun, hv⟩ := hown.look_ok law9 Tryz.underlying94 (zeroTd _) (zd := .held (.agg #[.string td0.nm, .slice none td0.fs.length 0])) (zp := []) rfl hkey
        rw [hu] at hv
        rw [hbo] at hrun
        simp only [heldE, Option.some.injEq, Prod.mk.injEq, DataW.held.injEq] at hv
        rw [hv.1] at hrun
        refine wpOp_step rfl (fun K hK => ?_)
        clear hdep hv
        go_simp
        exact hK _ _ ⟨.tuple #[.agg #[.string t'.nm, .slice a8 t'.fs.length c8], .bool bo], by simp [G.upd, dstT, d1, d3], Below.refl _ _, upR, rfl, HJ.out.else_ (by decide) (by decide) (by decide) (by decide)⟩
      · have d4 : u 26 = .tuple #[.agg #[.string t'.nm, .slice a8 t'.fs.length c8], .bool bo] := (hdep _ rfl ⟨4, .data⟩ (by simp) rfl).2
        refine wpOp_step rfl (fun K hK => ?_)
        clear hdep
        go_simp
        exact hK _ _ ⟨_, by simp [G.upd, dstT, d4], Below.refl _ _, upR, rfl, HJ.out.else_ (by decide) (by decide) (by decide) (by decide)⟩
      · have d5 : u 21 = .tuple #[.agg #[.string t'.nm, .slice a8 t'.fs.length c8], .bool bo] := (hdep _ rfl ⟨5, .data⟩ (by simp) rfl).2
        refine wpOp_step rfl (fun K hK => ?_)
        clear hdep
        go_simp
        exact hK _ _ ⟨_, by simp [G.upd, dstT, d5], Below.refl _ _, upR, rfl, HJ.out.else_ (by decide) (by decide) (by decide) (by decide)⟩
      · have d5 : u 21 = .tuple #[.agg #[.string t'.nm, .slice a8 t'.fs.length c8], .bool bo] := (hdep _ rfl ⟨5, .data⟩ (by simp) rfl).2
        refine wpOp_step rfl (fun K hK => ?_)
        clear hdep
        go_simp
        exact hK _ _ ⟨_, by simp [G.upd, dstT, d5], Below.refl _ _, upR, rfl, HJ.out.else_ (by decide) (by decide) (by decide) (by decide)⟩
      · skip
        refine wpOp_step rfl (fun K hK => ?_)
        clear hdep
        go_simp
        exact hK _ _ ⟨.pointer (some ⟨w2.heap.size, 0, none⟩), rfl, ((Below.refl _ _).alloc (Nat.le_refl _) _).mono z2, PT.up ((Below.refl _ _).alloc (Nat.le_refl _) _), ⟨w2.heap.size, _, rfl, z2, heap_alloc_new _ _, rfl⟩, HJ.out.eight hLi⟩
      · have p8 : PT w1.heap.size X.heap.size Bt (.agg #[.int .i64 D[k].k, .string D[k].nm, .string D[k].on, .slice a3 D[k].sels.len c3]) (tyNm D[k]) t' a8 c8 bo 8 (u 8) w2 := (hdep _ rfl ⟨8, .data⟩ (by simp) rfl).2
        have d6 : u 27 = .agg #[.string t'.nm, .slice a8 t'.fs.length c8] := (hdep _ rfl ⟨6, .data⟩ (by simp) rfl).2
        have h88 : L.getD 8 false = true := (hdep _ rfl ⟨8, .data⟩ (by simp) rfl).1
        obtain ⟨B, cs, e1, e2, e3, e4⟩ := p8
        have g0 : w2.cell? ⟨B, 0, none⟩ = some (cs[0]'(by omega)) := (row_cell e3 0).trans (Array.getElem?_eq_getElem (by omega))
        have g1 : w2.cell? ⟨B, 1, none⟩ = some (cs[1]'(by omega)) := (row_cell e3 1).trans (Array.getElem?_eq_getElem (by omega))
        have f0 := fun o => row_frozen e3 o
        refine wpOp_step rfl (fun K hK => ?_)
        clear hdep
        go_simp
        have ps := PT.set (M := w1.heap.size) (Z := X.heap.size) (Bt := Bt) (fv := .agg #[.int .i64 D[k].k, .string D[k].nm, .string D[k].on, .slice a3 D[k].sels.len c3]) (n := tyNm D[k]) (t' := t') (a8 := a8) (c8 := c8) (bo := bo) e3 e4
        exact hK _ _ ⟨.pointer (some ⟨B, 0, none⟩), by simp [G.upd, dstT, e1, d6], ((Below.refl _ _).setCell (p := ⟨B, 0, none⟩) e2 _).setCell (p := ⟨B, 1, none⟩) e2 _, ps.2, ⟨B, rfl, e2, ps.1⟩, JT.nine h88 e1⟩
    case last =>
      intro L u w2 hLs hdone hbw hj hp
      have p9 : PT w1.heap.size X.heap.size Bt (.agg #[.int .i64 D[k].k, .string D[k].nm, .string D[k].on, .slice a3 D[k].sels.len c3]) (tyNm D[k]) t' a8 c8 bo 9 (u 100) w2 := hp 9 (by omega)
      obtain ⟨B, e1, e2, e3⟩ := p9
      have e0 : u 8 = .pointer (some ⟨B, 0, none⟩) := (hj (hdone 9 (by omega))).2 _ e1
      have d7 : u 28 = .bool bo := hp 7 (by omega)
      have z2 := hbw.size
      have fw := row_cell ((hbw.block wr.heap.size (by omega)).trans FX.out) 3
      have cw := fun o => row_cell ((hbw.block w1.heap.size (by omega)).trans CX.out) o
      have bw := fun o => row_cell e3 o
      have HTL : Hid (Tc W w2 S D Bt Bf R) := HTX.out.keep hbw
      have R3L : Hid (SelRow 0 w2.heap.size w2 a3 D[k].sels) := SelRow.up R3X.out hbw
      have QL : Hid (Below w.heap.size w w2) := (QR.out.trans (BX.out.mono (by have := QR.out.size; omega))).trans (hbw.mono (by have := QR.out.size; omega))
      have VL : Hid (Below V.heap.size V w2) := (HK.out.trans (BX.out.mono (by omega))).trans (hbw.mono (by omega))
      have RFL : Hid (∀ h : G.FdRow 0 X.heap.size X a8 t'.fs, G.FdRow 0 w2.heap.size w2 a8 t'.fs) := fun h => G.FdRow.up h hbw
      clear hp hbw hj hdone e1 e3
      refine wpOp_step rfl (fun K hK => ?_)
      go_simp
      refine hK _ _ ?_
      clear hK K
      cases bo with
      | false =>
        have HN : Hid (12 = docC S D D) := by
          rcases HXX.out with ⟨_, h2⟩ | ⟨h1, _⟩
          · rw [Hid, HEX.out]; unfold defC; rw [h2]; rfl
          · cases h1
        clear HEX HXX
        go_wp2_with fail
        go_ret
        exact ⟨ret_i HN.out, QL.out⟩
      | true =>
        obtain ⟨h2, h3, h4⟩ : tdIn S (tyNm D[k]) = some t' ∧ t' ∈ S ∧ G.FdRow 0 X.heap.size X a8 t'.fs := by
          rcases HXX.out with ⟨h1, _⟩ | ⟨_, h⟩
          · cases h1
          · exact h
        have HDC : Hid (defC S D D[k] = setC S D t' D[k].sels) := by unfold Hid defC; rw [h2]
        have HTB : Hid (G.TdBd 1048576 t') := HB.out.2 _ h3
        have RF : Hid (G.FdRow 0 w2.heap.size w2 a8 t'.fs) := RFL.out h4
        clear HXX h2 h3 h4 RFL
        go_wp2_with fail
        refine (set_fault S D HO.out HB.out D[k].sels 7 t' a8 c8 a3 c3 Bt Bf R W _ HTL.out R3L.out RF.out HTB.out x3 X4.out OK3.out).mono ?_
        rintro e w3 ⟨rfl, hb3⟩
        have Q3 : Hid (Below w.heap.size w w3) := QL.out.trans (hb3.mono (by have := QL.out.size; omega))
        have V3 : Hid (Below V.heap.size V w3) := VL.out.trans (hb3.mono (by have := VL.out.size; omega))
        rw [← HDC.out]
        clear hb3 fw cw bw HDC
        generalize defC S D D[k] = y at *
        by_cases hz : y = 0
        · have HN : Hid (docC S D D = docC S D (D.drop (k + 1))) := by rw [Hid, HEX.out, if_pos hz]
          subst hz
          clear HEX
          go_wp2_with fail
          exact ⟨⟨k + 1, by omega, by go_num, V3, HN⟩, by simp [intOf]; omega⟩
        · have HN : Hid (y = docC S D D) := by rw [Hid, HEX.out, if_neg hz]
          have hz' : (y == 0) = false := by rw [beq_eq_false_iff_ne]; exact hz
          clear HEX
          go_wp2_with fail
          go_ret
          exact ⟨ret_i HN.out, Q3.out⟩
end Go.Proofs.YthbjihbpjajggaaGreat
namespace Go.Proofs.YthbjihbpjajggaaGreat
open Go.ChangeShapes Go.WideShapes Go.ChangeAt Go.RowKit
set_option linter.unusedVariables false

/-- What CheckTypes tells. -/
def CtR (S : List G.Td) (D : List De) (x y : Int) : Prop := (¬ G.SchOK S ∧ x = 0 ∧ y = 1) ∨ (G.SchOK S ∧ docB D = false ∧ x = 0 ∧ y = 1) ∨ (G.SchOK S ∧ docB D = true ∧ x = docC S D D ∧ y = 0)
theorem CtR.one {S : List G.Td} {D : List De} {x y x' y' : Int} (h : CtR S D x y) (h' : CtR S D x' y') : x = x' ∧ y = y' := by
  rcases h with ⟨a1, rfl, rfl⟩ | ⟨a1, a2, rfl, rfl⟩ | ⟨a1, a2, rfl, rfl⟩ <;> rcases h' with ⟨b1, rfl, rfl⟩ | ⟨b1, b2, rfl, rfl⟩ | ⟨b1, b2, rfl, rfl⟩ <;>
    first | exact ⟨rfl, rfl⟩ | exact absurd b1 a1 | exact absurd a1 b1 | (rw [a2] at b2; cases b2)
def SaysC (R : Int → Int → Prop) (e : Ending) : Prop := ∃ x y, e = .returned (.tuple #[.int .i64 x, .int .i64 y]) ∧ R x y

end Go.Proofs.YthbjihbpjajggaaGreat
namespace Go.Proofs.YthbjihbpjajggaaGreat
open Go.ChangeShapes Go.WideShapes Go.ChangeAt Go.RowKit
set_option linter.unusedVariables false

theorem size_nil {l : Sels} (h : l.size = 0) : l.isNil = true := by
  cases l with
  | nil => rfl
  | cons _ _ _ => simp [Sels.size] at h
theorem size_not {l : Sels} (h : ¬ l.size = 0) : l.isNil = false := by
  cases l with
  | nil => exact absurd rfl h
  | cons _ _ _ => rfl
theorem cnt_no_def {l : List De} {k : Nat} (hk : k < l.length) (h : cntB 7 l[k].sels = false) : docB l = false := by
  unfold cntB at h
  rw [Bool.and_eq_false_iff] at h
  rcases h with h | h
  · exact doc_no_def hk (by unfold defB; rw [h]; simp)
  · simp only [decide_eq_false_iff_not] at h
    exact doc_many hk (by omega)
theorem cnt_def {x : De} (hh : headB x = true) (h : cntB 7 x.sels = true) (h0 : ¬ x.sels.size = 0) : defB x = true := by
  unfold cntB at h
  rw [Bool.and_eq_true] at h
  unfold defB; rw [hh, h.1, size_not h0]; rfl
theorem head_no {l : List De} {k : Nat} (hk : k < l.length) (h : headB l[k] = false) : docB l = false := doc_no_def hk (by unfold defB; rw [h]; rfl)
/-- What the loop of the specification knows behind some definitions. -/
def DocPre (l : List De) (k s : Nat) : Prop := s = sizeL (l.take k) ∧ s ≤ 60 ∧ (l.take k).all defB = true
theorem DocPre.next {l : List De} {k s : Nat} (h : DocPre l k s) (hk : k < l.length) (hc : cntB 7 l[k].sels = true) (h0 : ¬ l[k].sels.size = 0) (hm : ¬ 60 < s + l[k].sels.size) (hh : headB l[k] = true) : DocPre l (k + 1) (s + l[k].sels.size) :=
  ⟨by rw [sizeL_take hk, h.1], by omega, all_take_b hk h.2.2 (cnt_def hh hc h0)⟩

set_option maxHeartbeats 4000000 in
set_option maxRecDepth 40000 in
theorem spec_doc (a : Option Addr) (c : Nat) (l : List De) (w : World) (hr : DeRow 0 w.heap.size w a l) (hl : l.length ≤ 1048576) (ht : ∀ x ∈ l, DeBd 1048576 x) :
    Calls Tryz.prog 15 #[.agg #[.slice a l.length c]] w fun e w' => e = .returned (.bool (docB l)) ∧ Below w.heap.size w w' := by
  have B0 : Hid (Below w.heap.size w (w.alloc (.cells #[.slice a l.length c] 38))) := (Below.refl _ _).alloc (Nat.le_refl _) _
  have HR : Hid (DeRow 0 w.heap.size w a l) := hr
  have HT : Hid (∀ x ∈ l, DeBd 1048576 x) := ht
  clear hr ht
  by_cases g1 : 1 ≤ l.length ∧ l.length ≤ 6
  case neg =>
    have HN : Hid (docB l = false) := doc_len g1
    have hin : inB l.length 1 6 = false := by unfold inB; rw [Bool.eq_false_iff]; intro h; simp at h; omega
    clear HR HT
    go_enter Tryz.func15, Tryz.ntmps15
    go_wp2_with fail
    refine (spec_in _ _ _ _).mono ?_
    rw [hin]
    rintro e w1 ⟨rfl, rfl⟩
    go_wp2_with fail
    go_ret
    exact ⟨ret_bool HN.out.symm, B0.out⟩
  have hin : inB l.length 1 6 = true := by unfold inB; simp; omega
  have G1 : Hid (1 ≤ l.length ∧ l.length ≤ 6) := g1
  have g1 := g1.2
  go_enter Tryz.func15, Tryz.ntmps15
  go_wp2_with fail
  refine (spec_in _ _ _ _).mono ?_
  rw [hin]
  rintro e w1 ⟨rfl, rfl⟩
  clear hin
  go_wp2_with fail
  go_loopw [3, 4] (fun n i w' => ∃ (k s : Nat), k ≤ l.length ∧ i = .int .i64 k ∧ n = .int .i64 s ∧ s ≤ 60 ∧ Below (w.heap.size + 1) (w.alloc (.cells #[.slice a l.length c] 38)) w' ∧ Hid (DocPre l k s)) (fun _ i _ => l.length - (intOf i).toNat)
  case atStart => exact ⟨0, 0, by omega, rfl, rfl, by omega, Below.refl _ _, ⟨rfl, by omega, rfl⟩⟩
  case round =>
    rename_i wr
    obtain ⟨k, s, hk, rfl, rfl, hs, hb, HA⟩ := hrel
    have k0 := fun o => hb.cell (p := ⟨w.heap.size, o, none⟩) (show w.heap.size < w.heap.size + 1 by omega)
    have hz := size_one hb
    have Q0 : Hid (Below w.heap.size w wr) := B0.out.trans (hb.mono (by omega))
    by_cases hlt : k < l.length
    · obtain ⟨b, o, a3, c3, ha, _, hbl, d0, d1, d2, d3, r3⟩ := DeRow.cells (DeRow.keep HR.out (Below.agree Q0.out (Nat.le_refl _))) k hlt
      subst ha
      have HX : Hid (DeBd 1048576 l[k]) := HT.out l[k] (List.getElem_mem hlt)
      have sn : l[k].nm.size ≤ maxLen := by have := HX.out.1; unfold maxLen; omega
      have so : l[k].on.size ≤ maxLen := by have := HX.out.2.1; unfold maxLen; omega
      have K3 : Hid (∀ W0, Below wr.heap.size wr W0 → SelRow 0 W0.heap.size W0 a3 l[k].sels) := fun W0 hB => SelRow.up (SelRow.wide r3 (Nat.le_refl _) (by omega)) hB
      clear r3
      go_wp2_with fail
      refine (spec_sels l[k].sels a3 c3 7 _ (K3.out _ ?b0) HX.out.2.2.1 HX.out.2.2.2 (by omega)).mono ?_
      case b0 => repeat (first | exact Below.refl _ _ | refine Below.setCell ?_ (by first | omega | (simp <;> omega)) _ | refine Below.alloc ?_ (by first | omega | (simp <;> omega)) _)
      cases hc : cntB 7 l[k].sels
      · rw [cnt_no hc]
        rintro e w1 ⟨rfl, hb1⟩
        have HN : Hid (docB l = false) := cnt_no_def hlt hc
        have q1 : Hid (Below w.heap.size w w1) := by
          refine Q0.out.trans (Below.trans ?_ (hb1.mono (by first | omega | (simp <;> omega))))
          repeat (first | exact Below.refl _ _ | refine Below.setCell ?_ (by first | omega | (simp <;> omega)) _ | refine Below.alloc ?_ (by first | omega | (simp <;> omega)) _)
        go_wp2_with fail
        go_ret
        exact ⟨ret_bool HN.out.symm, q1.out⟩
      rw [(cnt_yes hc).1]
      have h60 := (cnt_yes hc).2
      rintro e w1 ⟨rfl, hb1⟩
      have hz1 : wr.heap.size + 1 ≤ w1.heap.size := by have := hb1.size; simpa using this
      have p1 : Below wr.heap.size wr w1 := by
        refine Below.trans ?_ (hb1.mono (by first | omega | (simp <;> omega)))
        repeat (first | exact Below.refl _ _ | refine Below.setCell ?_ (by first | omega | (simp <;> omega)) _ | refine Below.alloc ?_ (by first | omega | (simp <;> omega)) _)
      have Q1 : Hid (Below (w.heap.size + 1) _ w1) := hb.trans (p1.mono (by omega))
      have q1 : Hid (Below w.heap.size w w1) := Q0.out.trans (p1.mono (by omega))
      have j0 := fun o => hb1.cell (p := ⟨wr.heap.size, o, none⟩) (by first | omega | (simp <;> omega))
      clear hb1 p1 k0 hb
      by_cases hz0 : l[k].sels.size = 0
      · have HN : Hid (docB l = false) := doc_no_def hlt (by unfold defB; rw [size_nil hz0]; simp)
        go_wp2_with fail
        go_ret
        exact ⟨ret_bool HN.out.symm, q1.out⟩
      have hzb : ((l[k].sels.size : Int) == 0) = false := by rw [beq_eq_false_iff_ne]; omega
      by_cases hm : 60 < s + l[k].sels.size
      · have HN : Hid (docB l = false) := doc_many hlt (by rw [← HA.out.1]; exact hm)
        clear hz0
        go_wp2_with fail
        go_ret
        exact ⟨ret_bool HN.out.symm, q1.out⟩
      have HX2 : Hid (headB l[k] = true → DocPre l (k + 1) (s + l[k].sels.size)) := fun hh => HA.out.next hlt hc hz0 hm hh
      have HX3 : Hid (headB l[k] = false → docB l = false) := head_no hlt
      have hm2 : s + l[k].sels.size ≤ 60 := by omega
      clear hz0 HX hc HA
      by_cases hkk : l[k].k = 1 ∨ l[k].k = 2
      · have HK : Hid (headB l[k] = ((noB l[k].nm || nameB l[k].nm) && noB l[k].on)) := by unfold Hid headB; rw [if_pos hkk]
        by_cases ho : l[k].on.toList = []
        case neg =>
          have HN : Hid (docB l = false) := HX3.out (by rw [HK.out, no_not ho]; simp)
          clear HX2 HX3 HK
          rcases hkk with hkk | hkk
          · go_wp2_with fail
            go_ret
            exact ⟨ret_bool HN.out.symm, q1.out⟩
          · have m1 : (l[k].k == 1) = false := by rw [hkk]; rfl
            go_wp2_with fail
            go_ret
            exact ⟨ret_bool HN.out.symm, q1.out⟩
        by_cases hn0 : l[k].nm.toList = []
        · have HN : Hid _ := HX2.out (by rw [HK.out, no_of ho, no_of hn0]; rfl)
          clear HX2 HX3 HK
          rcases hkk with hkk | hkk
          · go_wp2_with fail
            go_roundw
            case rel => exact ⟨k + 1, s + l[k].sels.size, by omega, by go_num, by go_num, hm2, Q1.out, HN⟩
            case measure => simp [intOf]; omega
          · have m1 : (l[k].k == 1) = false := by rw [hkk]; rfl
            go_wp2_with fail
            go_roundw
            case rel => exact ⟨k + 1, s + l[k].sels.size, by omega, by go_num, by go_num, hm2, Q1.out, HN⟩
            case measure => simp [intOf]; omega
        have nz : l[k].nm.toList.isEmpty = false := no_not hn0
        cases bn : nameB l[k].nm
        · have HN : Hid (docB l = false) := HX3.out (by rw [HK.out, no_not hn0, bn]; rfl)
          clear HX2 HX3 HK
          rcases hkk with hkk | hkk
          · go_wp2_with fail
            refine (spec_nameOK l[k].nm _ sn).mono ?_
            rw [bn]
            rintro e w9 ⟨rfl, rfl⟩
            go_wp2_with fail
            go_ret
            exact ⟨ret_bool HN.out.symm, q1.out⟩
          · have m1 : (l[k].k == 1) = false := by rw [hkk]; rfl
            go_wp2_with fail
            refine (spec_nameOK l[k].nm _ sn).mono ?_
            rw [bn]
            rintro e w9 ⟨rfl, rfl⟩
            go_wp2_with fail
            go_ret
            exact ⟨ret_bool HN.out.symm, q1.out⟩
        · have HN : Hid _ := HX2.out (by rw [HK.out, no_of ho, bn]; simp)
          clear HX2 HX3 HK
          rcases hkk with hkk | hkk
          · go_wp2_with fail
            refine (spec_nameOK l[k].nm _ sn).mono ?_
            rw [bn]
            rintro e w9 ⟨rfl, rfl⟩
            go_wp2_with fail
            go_roundw
            case rel => exact ⟨k + 1, s + l[k].sels.size, by omega, by go_num, by go_num, hm2, Q1.out, HN⟩
            case measure => simp [intOf]; omega
          · have m1 : (l[k].k == 1) = false := by rw [hkk]; rfl
            go_wp2_with fail
            refine (spec_nameOK l[k].nm _ sn).mono ?_
            rw [bn]
            rintro e w9 ⟨rfl, rfl⟩
            go_wp2_with fail
            go_roundw
            case rel => exact ⟨k + 1, s + l[k].sels.size, by omega, by go_num, by go_num, hm2, Q1.out, HN⟩
            case measure => simp [intOf]; omega
      have m1 : (l[k].k == 1) = false := by rw [beq_eq_false_iff_ne]; omega
      have m2 : (l[k].k == 2) = false := by rw [beq_eq_false_iff_ne]; omega
      by_cases h3 : l[k].k = 3
      · have HK : Hid (headB l[k] = (nameB l[k].nm && !onB l[k].nm && nameB l[k].on)) := by unfold Hid headB; rw [if_neg hkk, if_pos h3]
        clear hkk
        cases bn : nameB l[k].nm
        · have HN : Hid (docB l = false) := HX3.out (by rw [HK.out, bn]; rfl)
          clear HX2 HX3 HK
          go_wp2_with fail
          refine (spec_nameOK l[k].nm _ sn).mono ?_
          rw [bn]
          rintro e w9 ⟨rfl, rfl⟩
          go_wp2_with fail
          go_ret
          exact ⟨ret_bool HN.out.symm, q1.out⟩
        by_cases ho : l[k].nm.toList = [111, 110]
        · have HN : Hid (docB l = false) := HX3.out (by rw [HK.out, on_of ho]; simp)
          clear HX2 HX3 HK
          go_wp2_with fail
          refine (spec_nameOK l[k].nm _ sn).mono ?_
          rw [bn]
          rintro e w9 ⟨rfl, rfl⟩
          go_wp2_with fail
          go_ret
          exact ⟨ret_bool HN.out.symm, q1.out⟩
        have ho2 : (l[k].nm.toList == [111, 110]) = false := on_not ho
        cases bo : nameB l[k].on
        · have HN : Hid (docB l = false) := HX3.out (by rw [HK.out, bo]; simp)
          clear HX2 HX3 HK
          go_wp2_with fail
          refine (spec_nameOK l[k].nm _ sn).mono ?_
          rw [bn]
          rintro e w9 ⟨rfl, rfl⟩
          go_wp2_with fail
          refine (spec_nameOK l[k].on _ so).mono ?_
          rw [bo]
          rintro e w9 ⟨rfl, rfl⟩
          go_wp2_with fail
          go_ret
          exact ⟨ret_bool HN.out.symm, q1.out⟩
        · have HN : Hid _ := HX2.out (by rw [HK.out, bn, bo, on_not ho]; rfl)
          clear HX2 HX3 HK
          go_wp2_with fail
          refine (spec_nameOK l[k].nm _ sn).mono ?_
          rw [bn]
          rintro e w9 ⟨rfl, rfl⟩
          go_wp2_with fail
          refine (spec_nameOK l[k].on _ so).mono ?_
          rw [bo]
          rintro e w9 ⟨rfl, rfl⟩
          go_wp2_with fail
          go_roundw
          case rel => exact ⟨k + 1, s + l[k].sels.size, by omega, by go_num, by go_num, hm2, Q1.out, HN⟩
          case measure => simp [intOf]; omega
      have m3 : (l[k].k == 3) = false := by rw [beq_eq_false_iff_ne]; omega
      have HN : Hid (docB l = false) := HX3.out (by unfold headB; rw [if_neg hkk, if_neg h3])
      clear HX2 HX3 hkk h3
      go_wp2_with fail
      go_ret
      exact ⟨ret_bool HN.out.symm, q1.out⟩
    · have HN : Hid (docB l = true) := by
        have h1 := HA.out
        unfold DocPre at h1
        rw [List.take_of_length_le (by omega)] at h1
        exact doc_yes G1.out h1.2.2 (by omega)
      go_wp2_with fail
      go_ret
      exact ⟨ret_bool HN.out.symm, Q0.out⟩
end Go.Proofs.YthbjihbpjajggaaGreat
