/- Fields by their keys: what the groups are, and how they lie in memory. -/
import Derived.Test.YthbjihbpjajggaaGreatVaCycTwo
import Derived.Test.YthbjihbpjajggaaGreatVaCycSpec
import Derived.Test.YthbjihbpjajggaaGreatVaLimThree
import Derived.Test.YthbjihbpjajggaaGreatTyTypesSpec
import Derived.Test.YthbjihbpjajggaaGreatDocOpAny
import Derived.Test.YthbjihbpjajggaaGreatVaMrgMath
import Derived.Test.YthbjihbpjajggaaGreatSchFind
namespace Go.Proofs.YthbjihbpjajggaaGreat
open Go.ChangeShapes Go.WideShapes Go.ChangeAt Go.RowKit Go.Maps
set_option linter.unusedVariables false

theorem full_find {l : List De} (h : opCode l = 0) : ∀ x ∈ l, (x.k == 3) = true → l.find? (isFr x.nm) = some x := fun x hx h3 => by
  have hfull : ¬ (frsOf l).length + opsN l < l.length := fun hc => by
    unfold opCode at h
    rw [if_pos hc] at h; cases h
  obtain ⟨k, hk, rfl⟩ := List.getElem_of_mem hx
  refine find_at hk (fun y hy => ?_) (by unfold isFr; rw [h3]; simp)
  cases hc : isFr l[k].nm y with
  | false => rfl
  | true => exact absurd (short_at hk h3 (List.any_eq_true.2 ⟨y, hy, hc⟩)) hfull
/-- The first code of the operation, of types, of cycles, of limits, of merging. -/
def ValR (S : List G.Td) (l : List De) (y : Int) : Prop := (opCode l ≠ 0 ∧ y = opCode l) ∨ (opCode l = 0 ∧ ((docC S l l ≠ 0 ∧ y = docC S l l) ∨ (docC S l l = 0 ∧ ((Cyc l ∧ y = 13) ∨ (¬ Cyc l ∧ ∃ z, Lims l l z ∧ ((z ≠ 0 ∧ y = z) ∨ (z = 0 ∧ MrgC l y)))))))
theorem ValR.one {S : List G.Td} {l : List De} {y y' : Int} (h : ValR S l y) (h' : ValR S l y') : y = y' := by
  rcases h with ⟨h1, rfl⟩ | ⟨h1, h⟩ <;> rcases h' with ⟨g1, rfl⟩ | ⟨g1, h'⟩
  · rfl
  · exact absurd g1 h1
  · exact absurd h1 g1
  rcases h with ⟨h2, rfl⟩ | ⟨h2, h⟩ <;> rcases h' with ⟨g2, rfl⟩ | ⟨g2, h'⟩
  · rfl
  · exact absurd g2 h2
  · exact absurd h2 g2
  rcases h with ⟨h3, rfl⟩ | ⟨h3, z, hz, h⟩ <;> rcases h' with ⟨g3, rfl⟩ | ⟨g3, z', hz', h'⟩
  · rfl
  · exact absurd h3 g3
  · exact absurd g3 h3
  obtain rfl := hz.det hz'
  rcases h with ⟨h4, rfl⟩ | ⟨h4, h⟩ <;> rcases h' with ⟨g4, rfl⟩ | ⟨g4, h'⟩
  · rfl
  · exact absurd g4 h4
  · exact absurd h4 g4
  exact h.one h'
set_option maxHeartbeats 8000000 in
set_option maxRecDepth 40000 in
theorem spec_valAll (S : List G.Td) (D : List De) (aS : Option Addr) (cS : Nat) (aD : Option Addr) (cD : Nat) (w : World) (hSOK : G.SchOK S) (hSB : G.TdsBd 1048576 S) (hDB : DefsBd 1048576 D) (hdoc : docB D = true) (hsd : Sd w aS S aD D) :
    Calls Tryz.prog 16 #[.agg #[.slice aS S.length cS], .agg #[.slice aD D.length cD]] w fun e w' => (∃ y, e = .returned (.int .i64 y) ∧ ValR S D y) ∧ Below w.heap.size w w' := by
  obtain ⟨V, hV⟩ : ∃ V, V = (w.alloc (.cells #[.slice aS S.length cS] 34)).alloc (.cells #[.slice aD D.length cD] 38) := ⟨_, rfl⟩
  have bV : Below w.heap.size w V := by
    rw [hV]
    repeat (first | exact Below.refl _ _ | refine Below.alloc ?_ (by first | omega | (simp <;> omega)) _)
  have c0 : V.heap[w.heap.size]? = some (.cells #[.slice aS S.length cS] 34 (0, 0)) := by
    rw [hV, Below.heap_alloc _ _ _ (by simp)]; exact heap_alloc_new _ _
  have c1 : V.heap[w.heap.size + 1]? = some (.cells #[.slice aD D.length cD] 38 (0, 0)) := by
    rw [hV]
    have := heap_alloc_new (w.alloc (.cells #[.slice aS S.length cS] 34)) (.cells #[.slice aD D.length cD] 38)
    simpa using this
  have z0 := (Array.getElem?_eq_some_iff.1 c0).1
  have z1 := (Array.getElem?_eq_some_iff.1 c1).1
  have T : Hid (∀ W, Below V.heap.size V W → W.heap[w.heap.size]? = some (.cells #[.slice aS S.length cS] 34 (0, 0)) ∧ W.heap[w.heap.size + 1]? = some (.cells #[.slice aD D.length cD] 38 (0, 0)) ∧ Sd W aS S aD D ∧ Below w.heap.size w W) := fun W hW =>
    have hw := bV.trans (hW.mono bV.size)
    ⟨(hW.block _ z0).trans c0, (hW.block _ z1).trans c1, hsd.up hw, hw⟩
  have HSOK : Hid _ := hSOK
  have HSB : Hid (G.TdsBd 1048576 S) := hSB
  have HDB : Hid (DefsBd 1048576 D) := hDB
  have HDOC : Hid (docB D = true) := hdoc
  have x1 := fun o => row_cell c1 o
  clear hSOK hSB hDB hdoc hsd c0 c1 bV z0 z1
  go_enter Tryz.func16, Tryz.ntmps16
  go_upto_region 1 with fail
  rw [← hV]
  clear hV
  go_wp2_with fail
  refine (spec_op_any aD cD D _ (T.out _ (Below.refl _ _)).2.2.1.rd HDB.out).mono ?_
  rintro e w1 ⟨⟨dx, yo, a3, c3, rfl, hop, _⟩, b1⟩
  have HYO : Hid (yo = opCode D) := hop.code
  obtain ⟨U, hU⟩ : ∃ U, U = w1.alloc (.cells #[.int .i64 dx.k, .string dx.nm, .string dx.on, .slice a3 dx.sels.len c3] 77) := ⟨_, rfl⟩
  have BU : Below w1.heap.size w1 U := by rw [hU]; exact (Below.refl _ _).alloc (Nat.le_refl _) _
  have Q1 : Hid (Below V.heap.size V U) := b1.trans (BU.mono b1.size)
  have T1 : Hid _ := T.out _ Q1.out
  clear hop b1 BU x1
  unfold deV
  go_upto_region 2 with fail
  rw [← hU]
  clear hU
  by_cases hy0 : yo = 0
  case neg =>
    have hyb : (yo != 0) = true := by simpa using hy0
    have HE : Hid (ValR S D yo) := .inl ⟨by rw [← HYO.out]; exact hy0, HYO.out⟩
    clear hy0
    go_wp2_with fail
    go_ret
    exact ⟨⟨yo, rfl, HE.out⟩, T1.out.2.2.2⟩
  subst hy0
  have HOP : Hid (opCode D = 0) := HYO.out.symm
  have x0 := fun o => row_cell T1.out.1 o
  have x1 := fun o => row_cell T1.out.2.1 o
  have hq := spec_types S D aS cS aD cD U HSOK.out HSB.out HDB.out HDOC.out T1.out.2.2.1
  have HQ : Hid _ := hq
  clear hq
  go_wp2_with fail
  refine Calls.mono HQ.out ?_
  rintro e w2 ⟨rfl, b2⟩
  have Q2 : Hid (Below V.heap.size V w2) := Q1.out.trans (b2.mono Q1.out.size)
  have T2 : Hid _ := T.out _ Q2.out
  clear b2 x0 x1 HQ
  generalize hDC : docC S D D = dc
  have HDC : Hid (docC S D D = dc) := hDC
  clear hDC
  by_cases hd0 : dc = 0
  case neg =>
    have hyb : (dc != 0) = true := by simpa using hd0
    have HE : Hid (ValR S D dc) := .inr ⟨HOP.out, .inl ⟨by rw [HDC.out]; exact hd0, HDC.out.symm⟩⟩
    clear hd0
    go_wp2_with fail
    go_ret
    exact ⟨⟨dc, rfl, HE.out⟩, T2.out.2.2.2⟩
  subst hd0
  have x1 := fun o => row_cell T2.out.2.1 o
  have hds := doc_size HDOC.out
  have HQ : Hid _ := spec_cycle aD cD D w2 T2.out.2.2.1.rd HDB.out (full_find HOP.out) (fun x hx => by have := sizeL_mem hx; omega) (by have := allSp_len D; omega)
  clear hds
  go_wp2_with fail
  refine Calls.mono HQ.out ?_
  rintro e w3 ⟨⟨bc, rfl, hbc⟩, b3⟩
  have Q3 : Hid (Below V.heap.size V w3) := Q2.out.trans (b3.mono Q2.out.size)
  have T3 : Hid _ := T.out _ Q3.out
  clear b3 x1 HQ
  cases bc with
  | true =>
    have HE : Hid (ValR S D 13) := .inr ⟨HOP.out, .inr ⟨HDC.out, .inl ⟨hbc.1 rfl, rfl⟩⟩⟩
    clear hbc
    go_wp2_with fail
    go_ret
    exact ⟨⟨13, rfl, HE.out⟩, T3.out.2.2.2⟩
  | false =>
  have HNC : Hid (¬ Cyc D) := fun h => by have := hbc.2 h; cases this
  clear hbc
  have x1 := fun o => row_cell T3.out.2.1 o
  have HQ : Hid _ := spec_limits aD cD D w3 T3.out.2.2.1.rd HDB.out
  go_wp2_with fail
  refine Calls.mono HQ.out ?_
  rintro e w4 ⟨⟨z, rfl, hz⟩, b4⟩
  have Q4 : Hid (Below V.heap.size V w4) := Q3.out.trans (b4.mono Q3.out.size)
  have T4 : Hid _ := T.out _ Q4.out
  have HZ : Hid (Lims D D z) := hz
  clear b4 x1 HQ hz
  by_cases hz0 : z = 0
  case neg =>
    have hyb : (z != 0) = true := by simpa using hz0
    have HE : Hid (ValR S D z) := .inr ⟨HOP.out, .inr ⟨HDC.out, .inr ⟨HNC.out, z, HZ.out, .inl ⟨hz0, rfl⟩⟩⟩⟩
    clear hz0
    go_wp2_with fail
    go_ret
    exact ⟨⟨z, rfl, HE.out⟩, T4.out.2.2.2⟩
  subst hz0
  have x1 := fun o => row_cell T4.out.2.1 o
  have HQ : Hid _ := spec_merges aD cD D w4 T4.out.2.2.1.rd HDB.out (doc_kinds HDOC.out) (docC_args (doc_size HDOC.out).2 HDC.out) (fun x hx => by obtain ⟨n, h1, h2⟩ := HZ.out.ex rfl x hx; exact ⟨n, h1, h2⟩)
  go_wp2_with fail
  refine Calls.mono HQ.out ?_
  rintro e w5 ⟨⟨y, rfl, hy⟩, b5⟩
  have HE : Hid (ValR S D y) := .inr ⟨HOP.out, .inr ⟨HDC.out, .inr ⟨HNC.out, 0, HZ.out, .inr ⟨rfl, hy⟩⟩⟩⟩
  have G5 : Hid (Below w.heap.size w w5) := T4.out.2.2.2.trans (b5.mono T4.out.2.2.2.size)
  clear hy b5 x1 HQ
  go_wp2_with fail
  go_ret
  exact ⟨⟨y, rfl, HE.out⟩, G5.out⟩
/-- What Validate tells. -/
def VlR (S : List G.Td) (D : List De) (x y : Int) : Prop := (¬ G.SchOK S ∧ x = 0 ∧ y = 1) ∨ (G.SchOK S ∧ docB D = false ∧ x = 0 ∧ y = 1) ∨ (G.SchOK S ∧ docB D = true ∧ ValR S D x ∧ y = 0)
theorem VlR.one {S : List G.Td} {D : List De} {x y x' y' : Int} (h : VlR S D x y) (h' : VlR S D x' y') : x = x' ∧ y = y' := by
  rcases h with ⟨h1, rfl, rfl⟩ | ⟨h1, h2, rfl, rfl⟩ | ⟨h1, h2, h3, rfl⟩ <;> rcases h' with ⟨g1, rfl, rfl⟩ | ⟨g1, g2, rfl, rfl⟩ | ⟨g1, g2, g3, rfl⟩
  · exact ⟨rfl, rfl⟩
  · exact absurd g1 h1
  · exact absurd g1 h1
  · exact absurd h1 g1
  · exact ⟨rfl, rfl⟩
  · rw [h2] at g2; cases g2
  · exact absurd h1 g1
  · rw [h2] at g2; cases g2
  · exact ⟨h3.one g3, rfl⟩
set_option maxHeartbeats 4000000 in
set_option maxRecDepth 40000 in
theorem spec_validate (a : Option Addr) (c : Nat) (S : List G.Td) (a' : Option Addr) (c' : Nat) (D : List De) (w : World) (hS : G.TdRow 0 w.heap.size w a S) (hB : G.TdsBd 1048576 S) (hD : DeRow 0 w.heap.size w a' D) (hb : DefsBd 1048576 D) :
    Calls Tryz.prog 6 #[.agg #[.slice a S.length c], .agg #[.slice a' D.length c']] w fun e w' => SaysC (VlR S D) e ∧ Below w.heap.size w w' := by
  have HS : Hid (∀ W0, Below w.heap.size w W0 → G.TdRow 0 W0.heap.size W0 a S) := fun W0 hB => G.TdRow.up hS hB
  have HB : Hid (G.TdsBd 1048576 S) := hB
  have K1 : Hid (∀ W0, Below w.heap.size w W0 → DeRow 0 W0.heap.size W0 a' D) := fun W0 hB => DeRow.up hD hB
  have HD : Hid (DefsBd 1048576 D) := hb
  clear hS hB hD hb
  go_enter Tryz.func6, Tryz.ntmps6
  go_wp2_with fail
  obtain ⟨W, hW⟩ : ∃ W, W = (w.alloc (.cells #[.slice a S.length c] 34)).alloc (.cells #[.slice a' D.length c'] 38) := ⟨_, rfl⟩
  rw [← hW]
  have zW : W.heap.size = w.heap.size + 2 := by rw [hW]; simp
  have BW : Hid (Below w.heap.size w W) := by rw [hW]; exact ((Below.refl _ _).alloc (Nat.le_refl _) _).alloc (by simp) _
  have A0 : Hid (W.heap[w.heap.size]? = some (.cells #[.slice a S.length c] 34 (0, 0))) := by rw [Hid, hW, Below.heap_alloc _ _ _ (by simp)]; exact heap_alloc_new _ _
  have A1 : Hid (W.heap[w.heap.size + 1]? = some (.cells #[.slice a' D.length c'] 38 (0, 0))) := by
    rw [Hid, hW]
    have := heap_alloc_new (w.alloc (.cells #[.slice a S.length c] 34)) (.cells #[.slice a' D.length c'] 38)
    simpa using this
  clear hW
  refine (G.spec_schema a c S _ (HS.out _ BW.out) HB.out).mono ?_
  rintro e w1 ⟨⟨b, rfl, hbl⟩, hb1⟩
  have z1 := hb1.size
  have Q1 : Hid (Below w.heap.size w w1) := BW.out.trans (hb1.mono (by omega))
  have A01 : Hid (w1.heap[w.heap.size]? = some (.cells #[.slice a S.length c] 34 (0, 0))) := (hb1.block _ (by omega)).trans A0.out
  have A11 : Hid (w1.heap[w.heap.size + 1]? = some (.cells #[.slice a' D.length c'] 38 (0, 0))) := (hb1.block _ (by omega)).trans A1.out
  have c1 := row_cell A11.out 0
  clear hb1
  rcases hbl with ⟨rfl, hp⟩ | ⟨rfl, hp⟩
  case inr =>
    have HN : Hid (VlR S D 0 1) := .inl ⟨hp, rfl, rfl⟩
    clear hp
    go_wp2_with fail
    go_ret2
    exact ⟨⟨_, _, rfl, HN.out⟩, Q1.out⟩
  have HOK : Hid (G.SchOK S) := hp
  clear hp
  go_wp2_with fail
  refine (spec_doc a' c' D _ (K1.out _ Q1.out) HD.out.1 HD.out.2).mono ?_
  rintro e w2 ⟨rfl, hb2⟩
  have z2 := hb2.size
  have Q2 : Hid (Below w.heap.size w w2) := Q1.out.trans (hb2.mono (by omega))
  have c20 := row_cell ((hb2.block w.heap.size (by omega)).trans A01.out) 0
  have c21 := row_cell ((hb2.block (w.heap.size + 1) (by omega)).trans A11.out) 0
  clear hb2 c1
  cases hdb : docB D with
  | false =>
    have HN : Hid (VlR S D 0 1) := .inr (.inl ⟨HOK.out, hdb, rfl, rfl⟩)
    clear hdb
    go_wp2_with fail
    go_ret2
    exact ⟨⟨_, _, rfl, HN.out⟩, Q2.out⟩
  | true =>
    have HDB : Hid (docB D = true) := hdb
    clear hdb
    go_wp2_with fail
    refine (spec_valAll S D a c a' c' _ HOK.out HB.out HD.out HDB.out ⟨HS.out _ Q2.out, K1.out _ Q2.out⟩).mono ?_
    rintro e w3 ⟨⟨y, rfl, hy⟩, hb3⟩
    have HN : Hid (VlR S D y 0) := .inr (.inr ⟨HOK.out, HDB.out, hy, rfl⟩)
    have Q3 : Hid (Below w.heap.size w w3) := Q2.out.trans (hb3.mono (by omega))
    clear hb3 c20 c21 hy
    go_wp2_with fail
    go_ret2
    exact ⟨⟨_, _, rfl, HN.out⟩, Q3.out⟩
end Go.Proofs.YthbjihbpjajggaaGreat
namespace Go.Proofs.YthbjihbpjajggaaGreat
open Go.ChangeShapes Go.WideShapes Go.ChangeAt Go.RowKit Go.Maps
set_option linter.unusedVariables false

def gstep (ks : List ByteArray) (x : Hd × Sels) : List ByteArray := if G.seen ks (kyB x.1) = true then ks else ks ++ [kyB x.1]
/-- The keys, as they first come. -/
def gkeys (f : List (Hd × Sels)) : List ByteArray := f.foldl gstep []
theorem gkeys_snoc (f : List (Hd × Sels)) (x : Hd × Sels) : gkeys (f ++ [x]) = gstep (gkeys f) x := by
  unfold gkeys; rw [List.foldl_append]; rfl
theorem seen_snoc (ks : List ByteArray) (t s : ByteArray) : G.seen (ks ++ [t]) s = (G.seen ks s || (t.toList == s.toList)) := by
  unfold G.seen; rw [List.any_append]; simp
theorem gstep_mono {ks : List ByteArray} {x : Hd × Sels} {s : ByteArray} (h : G.seen ks s = true) : G.seen (gstep ks x) s = true := by
  unfold gstep; split
  · exact h
  · rw [seen_snoc, h]; rfl
theorem gstep_self (ks : List ByteArray) (x : Hd × Sels) : G.seen (gstep ks x) (kyB x.1) = true := by
  unfold gstep; split
  · assumption
  · rw [seen_snoc]; simp
theorem fold_mono : ∀ (f : List (Hd × Sels)) (ks : List ByteArray) {s : ByteArray}, G.seen ks s = true → G.seen (f.foldl gstep ks) s = true
  | [], _, _, h => h
  | x :: f, ks, _, h => fold_mono f (gstep ks x) (gstep_mono h)
theorem fold_mem : ∀ (f : List (Hd × Sels)) (ks : List ByteArray) (x : Hd × Sels), x ∈ f → G.seen (f.foldl gstep ks) (kyB x.1) = true
  | y :: f, ks, x, h => by
    rcases List.mem_cons.1 h with rfl | h
    · exact fold_mono f _ (gstep_self ks _)
    · exact fold_mem f _ x h
theorem gkeys_mem {f : List (Hd × Sels)} {x : Hd × Sels} (h : x ∈ f) : G.seen (gkeys f) (kyB x.1) = true := fold_mem f [] x h
theorem fold_ex : ∀ (f : List (Hd × Sels)) (ks : List ByteArray) (s : ByteArray), G.seen (f.foldl gstep ks) s = true → G.seen ks s = true ∨ ∃ x ∈ f, kyL x = s.toList
  | [], _, _, h => .inl h
  | x :: f, ks, s, h => by
    rcases fold_ex f (gstep ks x) s h with h | ⟨y, hy, e⟩
    · unfold gstep at h
      split at h
      · exact .inl h
      · rw [seen_snoc, Bool.or_eq_true] at h
        rcases h with h | h
        · exact .inl h
        · exact .inr ⟨x, by simp, by simpa [kyL] using h⟩
    · exact .inr ⟨y, by simp [hy], e⟩
theorem seen_at {ks : List ByteArray} {s : ByteArray} (h : G.seen ks s = true) : ∃ i, ∃ hi : i < ks.length, ks[i].toList = s.toList := by
  unfold G.seen at h
  rw [List.any_eq_true] at h
  obtain ⟨t, ht, e⟩ := h
  obtain ⟨i, hi, rfl⟩ := List.getElem_of_mem ht
  exact ⟨i, hi, by simpa using e⟩
theorem gkeys_ex {f : List (Hd × Sels)} {i : Nat} (h : i < (gkeys f).length) : ∃ x ∈ f, kyL x = (gkeys f)[i].toList := by
  have h9 : G.seen (gkeys f) (gkeys f)[i] = true := G.seen_of' h (by simp)
  rcases fold_ex f [] (gkeys f)[i] h9 with h | h
  · simp [G.seen] at h
  · exact h
theorem fold_nodup : ∀ (f : List (Hd × Sels)) (ks : List ByteArray), (ks.map ByteArray.toList).Nodup → ((f.foldl gstep ks).map ByteArray.toList).Nodup
  | [], _, h => h
  | x :: f, ks, h => by
    refine fold_nodup f _ ?_
    unfold gstep; split
    · exact h
    · rename_i hn
      rw [List.map_append, List.nodup_append]
      refine ⟨h, by simp, fun a ha b hb e => hn ?_⟩
      obtain ⟨t, ht, rfl⟩ := List.mem_map.1 ha
      obtain ⟨i, hi, rfl⟩ := List.getElem_of_mem ht
      simp only [List.map_cons, List.map_nil, List.mem_singleton] at hb
      exact G.seen_of' hi (by rw [e, hb]; simp)
theorem gkeys_nodup (f : List (Hd × Sels)) : ((gkeys f).map ByteArray.toList).Nodup := fold_nodup f [] (by simp)
theorem gkeys_ne {f : List (Hd × Sels)} {i j : Nat} (hi : i < (gkeys f).length) (hj : j < (gkeys f).length) (h : i ≠ j) : (gkeys f)[i].toList ≠ (gkeys f)[j].toList := by
  intro e
  have hp := List.pairwise_iff_getElem.1 (gkeys_nodup f)
  rcases Nat.lt_or_gt_of_ne h with hlt | hlt
  · exact hp i j (by simpa using hi) (by simpa using hj) hlt (by simpa using e)
  · exact hp j i (by simpa using hj) (by simpa using hi) hlt (by simpa using e.symm)
theorem fold_len : ∀ (f : List (Hd × Sels)) (ks : List ByteArray), (f.foldl gstep ks).length ≤ ks.length + f.length
  | [], _ => by simp
  | x :: f, ks => by
    have h1 := fold_len f (gstep ks x)
    have h2 : (gstep ks x).length ≤ ks.length + 1 := by unfold gstep; split <;> simp
    simp only [List.foldl_cons, List.length_cons]; omega
theorem gkeys_len (f : List (Hd × Sels)) : (gkeys f).length ≤ f.length := by have := fold_len f []; simp only [List.length_nil, Nat.zero_add] at this; exact this
theorem ofK_snoc (k : List UInt8) (f : List (Hd × Sels)) (x : Hd × Sels) : ofK k (f ++ [x]) = if kyL x = k then ofK k f ++ [x] else ofK k f := by
  unfold ofK
  rw [List.filter_append]
  by_cases h : kyL x = k
  · rw [if_pos h]; simp [h]
  · rw [if_neg h]; simp [h]
theorem ofK_none {f : List (Hd × Sels)} {s : ByteArray} (h : G.seen (gkeys f) s = false) : ofK s.toList f = [] := by
  unfold ofK
  rw [List.filter_eq_nil_iff]
  intro x hx he
  have h1 := gkeys_mem hx
  have h2 : (kyB x.1).toList = s.toList := by simpa [kyL] using he
  unfold G.seen at h1 h
  rw [h2] at h1
  rw [h1] at h; cases h

/-- A group's two cells. -/
def gcells : List (ByteArray × Value) → List Value
  | [] => []
  | p :: ps => .string p.1 :: p.2 :: gcells ps
theorem gcells_len : ∀ ps, (gcells ps).length = ps.length * 2
  | [] => rfl
  | p :: ps => by simp only [gcells, List.length_cons, gcells_len ps]; omega
theorem gcells_get : ∀ (ps : List (ByteArray × Value)) (i : Nat) (h : i < ps.length), (gcells ps)[i * 2]? = some (.string ps[i].1) ∧ (gcells ps)[i * 2 + 1]? = some ps[i].2
  | p :: ps, 0, h => ⟨rfl, rfl⟩
  | p :: ps, i + 1, h => by
    have := gcells_get ps i (by simpa using h)
    rw [show (i + 1) * 2 = i * 2 + 2 by omega]
    exact this
theorem gcells_snoc : ∀ (ps : List (ByteArray × Value)) (p : ByteArray × Value), gcells (ps ++ [p]) = gcells ps ++ [.string p.1, p.2]
  | [], p => rfl
  | q :: ps, p => by simp [gcells, gcells_snoc ps p]
theorem gcells_set : ∀ (ps : List (ByteArray × Value)) (i : Nat) (h : i < ps.length) (v : Value), (gcells ps).set (i * 2 + 1) v = gcells (ps.set i (ps[i].1, v))
  | p :: ps, 0, h, v => rfl
  | p :: ps, i + 1, h, v => by
    have := gcells_set ps i (by simpa using h) v
    rw [show (i + 1) * 2 + 1 = (i * 2 + 1) + 1 + 1 by omega]
    simp only [gcells, List.set_cons_succ, this, List.getElem_cons_succ]
theorem gcells_one : ∀ (ps : List (ByteArray × Value)), (∀ p ∈ ps, p.2.oneCell' = true) → ∀ u ∈ gcells ps, u.oneCell' = true
  | [], _, u, hu => by simp [gcells] at hu
  | p :: ps, h, u, hu => by
    simp only [gcells, List.mem_cons] at hu
    rcases hu with rfl | rfl | hu
    · rfl
    · exact h p (by simp)
    · exact gcells_one ps (fun q hq => h q (by simp [hq])) u hu
/-- Groups in a row of their own, the fields of each in a row of its own. -/
structure GrpAt (w0 : World) (base : Nat) (w : World) (v : Value) (ps : List (ByteArray × Value)) (f : List (Hd × Sels)) : Prop where
  own : w.ownsRow base 148 2 v ps.length (gcells ps)
  each : ∀ i (h : i < ps.length), FOwn w0 base 119 w ps[i].2 (ofK ps[i].1.toList f)
  apart : ∀ i j (hi : i < ps.length) (hj : j < ps.length), i ≠ j → ∀ g, ps[i].2.ownBlock = some g → ps[j].2.ownBlock ≠ some g
theorem GrpAt.start (w0 : World) (base : Nat) (w : World) : GrpAt w0 base w (.slice none 0 0) [] [] := ⟨⟨rfl, .inl ⟨rfl, rfl⟩⟩, fun i h => absurd h (by simp), fun i j h => absurd h (by simp)⟩
theorem GrpAt.lt {w0 w : World} {base : Nat} {v : Value} {ps : List (ByteArray × Value)} {f : List (Hd × Sels)} (h : GrpAt w0 base w v ps f) : ∀ g, v.ownBlock = some g → base ≤ g ∧ g < w.heap.size := World.ownsRow.lt h.own
theorem GrpAt.keep {w0 w w' : World} {base : Nat} {v : Value} {ps : List (ByteArray × Value)} {f : List (Hd × Sels)} (h : GrpAt w0 base w v ps f) (hk : ∀ g, base ≤ g → g < w.heap.size → w'.heap[g]? = w.heap[g]?) : GrpAt w0 base w' v ps f :=
  ⟨owns_sameV h.own fun g hg => hk g (h.lt g hg).1 (h.lt g hg).2, fun i hi => (h.each i hi).keep fun g hg => hk g ((h.each i hi).lt g hg).1 ((h.each i hi).lt g hg).2, h.apart⟩
theorem GrpAt.up {w0 w w' : World} {base : Nat} {v : Value} {ps : List (ByteArray × Value)} {f : List (Hd × Sels)} (h : GrpAt w0 base w v ps f) (hb : Below w.heap.size w w') : GrpAt w0 base w' v ps f := h.keep fun g _ hg => hb.block g hg
/-- The row of groups is no row of fields. -/
theorem GrpAt.not_in {w0 w : World} {base : Nat} {v : Value} {ps : List (ByteArray × Value)} {f : List (Hd × Sels)} (h : GrpAt w0 base w v ps f) {g : Nat} (hg : v.ownBlock = some g) {i : Nat} (hi : i < ps.length) : ps[i].2.ownBlock ≠ some g := by
  intro he
  obtain ⟨vs, ho, _⟩ := h.each i hi
  rcases h.own.2 with ⟨rfl, _⟩ | ⟨g1, c1, u1, rfl, _, h1, _⟩
  · simp [Value.ownBlock] at hg
  · rcases ho.2 with ⟨e2, _⟩ | ⟨g2, c2, u2, e2, _, h2, _⟩
    · rw [e2] at he; simp [Value.ownBlock] at he
    · rw [e2] at he
      simp only [Value.ownBlock, Option.some.injEq] at hg he
      subst hg
      subst he
      rw [h1] at h2; simp at h2
/-- A group more, with no field yet. -/
theorem GrpAt.push {w0 w w' : World} {base : Nat} {v v' : Value} {ps : List (ByteArray × Value)} {f : List (Hd × Sels)} (h : GrpAt w0 base w v ps f) {key : ByteArray} (hf : ofK key.toList f = []) (hg : w.grownBy w' v.ownBlock) (ho : w'.ownsRow base 148 2 v' (ps.length + 1) (gcells ps ++ [.string key, .slice none 0 0])) : GrpAt w0 base w' v' (ps ++ [(key, .slice none 0 0)]) f := by
  have hi0 : ∀ i (hi : i < (ps ++ [(key, Value.slice none 0 0)]).length), (∃ h' : i < ps.length, (ps ++ [(key, Value.slice none 0 0)])[i] = ps[i]) ∨ (ps ++ [(key, Value.slice none 0 0)])[i] = (key, Value.slice none 0 0) := fun i hi => by
    by_cases h' : i < ps.length
    · exact .inl ⟨h', List.getElem_append_left h'⟩
    · refine .inr ?_
      have hi' : i = ps.length := by simp at hi; omega
      subst hi'
      rw [List.getElem_append_right (Nat.le_refl _)]; simp
  refine ⟨?_, fun i hi => ?_, fun i j hi hj hne g hg1 => ?_⟩
  · rw [gcells_snoc, List.length_append]; exact ho
  · rcases hi0 i hi with ⟨h', e⟩ | e
    · rw [e]
      exact (h.each i h').keep fun g hg' => hg.block g ((h.each i h').lt g hg').2 fun e' => h.not_in e'.symm h' hg'
    · rw [e]
      show FOwn _ _ _ _ (.slice none 0 0) (ofK key.toList f)
      rw [hf]; exact FOwn.none _ _ _ _
  · rcases hi0 i hi with ⟨h', e⟩ | e
    · rcases hi0 j hj with ⟨h'', e'⟩ | e'
      · rw [e] at hg1
        rw [e']
        exact h.apart i j h' h'' hne g hg1
      · rw [e']; simp [Value.ownBlock]
    · rw [e] at hg1; simp [Value.ownBlock] at hg1
/-- A field more in one of the groups. -/
theorem GrpAt.add {w0 w w8 w9 : World} {base : Nat} {v s8 : Value} {ps : List (ByteArray × Value)} {f : List (Hd × Sels)} {x : Hd × Sels} (h : GrpAt w0 base w v ps f) {i : Nat} (hi : i < ps.length) (hg : w.grownBy w8 ps[i].2.ownBlock) (ho : FOwn w0 base 119 w8 s8 (ofK ps[i].1.toList f ++ [x])) (hat : s8.ownBlock = ps[i].2.ownBlock ∨ ∃ q, s8.ownBlock = some q ∧ w.heap.size ≤ q)
    {g0 : Nat} (hg0 : v.ownBlock = some g0) (ho9 : w9.ownsRow base 148 2 v ps.length ((gcells ps).set (i * 2 + 1) s8)) (hk9 : ∀ g, g ≠ g0 → w9.heap[g]? = w8.heap[g]?) (hx : kyL x = ps[i].1.toList) (hne : ∀ j (hj : j < ps.length), j ≠ i → ps[j].1.toList ≠ ps[i].1.toList) : GrpAt w0 base w9 v (ps.set i (ps[i].1, s8)) (f ++ [x]) := by
  have hl0 := (h.lt g0 hg0).2
  have hs8 : ∀ g, s8.ownBlock = some g → g ≠ g0 := fun g hg1 e => by
    subst e
    rcases hat with h1 | ⟨q, h1, h2⟩
    · rw [hg1] at h1; exact h.not_in hg0 hi h1.symm
    · rw [hg1] at h1; simp only [Option.some.injEq] at h1; omega
  refine ⟨?_, fun j hj => ?_, fun j k hj hk hjk g hg1 => ?_⟩
  · rw [List.length_set, ← gcells_set ps i hi]; exact ho9
  · have hj' : j < ps.length := by simpa using hj
    by_cases e : j = i
    · subst e
      rw [List.getElem_set_self]
      show FOwn _ _ _ _ s8 (ofK ps[j].1.toList (f ++ [x]))
      rw [ofK_snoc, if_pos hx]
      exact ho.keep fun g hg1 => hk9 g (hs8 g hg1)
    · rw [List.getElem_set_ne (fun e' => e e'.symm)]
      rw [ofK_snoc, if_neg (fun e' => hne j hj' e (by rw [← e', hx]))]
      exact (h.each j hj').keep fun g hg1 => (hk9 g (fun e' => h.not_in hg0 hj' (by rw [hg1, e']))).trans (hg.block g ((h.each j hj').lt g hg1).2 fun e' => h.apart i j hi hj' (fun e'' => e e''.symm) g e'.symm hg1)
  · have hj' : j < ps.length := by simpa using hj
    have hk' : k < ps.length := by simpa using hk
    by_cases e : j = i
    · subst e
      rw [List.getElem_set_self] at hg1
      rw [List.getElem_set_ne hjk]
      intro hg2
      rcases hat with h1 | ⟨q, h1, h3⟩
      · exact h.apart j k hj' hk' hjk g (h1.symm.trans hg1) hg2
      · have := ((h.each k hk').lt g hg2).2
        have h2 : some g = some q := hg1.symm.trans h1
        simp only [Option.some.injEq] at h2; omega
    · rw [List.getElem_set_ne (fun e' => e e'.symm)] at hg1
      by_cases e2 : k = i
      · subst e2
        rw [List.getElem_set_self]
        intro hg2
        have hg2 : s8.ownBlock = some g := hg2
        rcases hat with h1 | ⟨q, h1, h3⟩
        · exact h.apart j k hj' hk' hjk g hg1 (h1.symm.trans hg2)
        · have := ((h.each j hj').lt g hg1).2
          have h2 : some g = some q := hg2.symm.trans h1
          simp only [Option.some.injEq] at h2; omega
      · rw [List.getElem_set_ne (fun e' => e2 e'.symm)]
        exact h.apart j k hj' hk' hjk g hg1
end Go.Proofs.YthbjihbpjajggaaGreat
