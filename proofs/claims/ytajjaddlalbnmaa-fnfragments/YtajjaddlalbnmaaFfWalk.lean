/- FnFragments' walk. -/
import Derived.Test.YtajjaddlalbnmaaNdCyc
import Derived.Test.YtajjaddlalbnmaaVaCycSpec
import Derived.Test.YtajjaddlalbnmaaDocOpI
namespace Go.Proofs.Ytajjaddlalbnmaa
open Go.ChangeShapes Go.WideShapes Go.ChangeAt Go.RowKit Go.Maps
set_option linter.unusedVariables false

theorem SelsBd.up {m k : Nat} (h : m ≤ k) : ∀ {s : Sels}, SelsBd m s → SelsBd k s
  | .nil, _ => trivial
  | .cons hd sub rest, ⟨⟨a1, a2, a3, a4, a5, a6⟩, l1, h1, h2⟩ =>
    ⟨⟨by omega, by omega, by omega, fun x hx => ⟨by have := (a4 x hx).1; omega, by have := (a4 x hx).2; omega⟩, by omega, fun x hx => by have := a6 x hx; unfold DiBd at *; omega⟩, by omega, SelsBd.up h h1, SelsBd.up h h2⟩
theorem sels_len_size : ∀ s : Sels, s.len ≤ s.size
  | .nil => Nat.zero_le _
  | .cons hd sub rest => by have := sels_len_size rest; simp only [Sels.len, Sels.size]; omega
theorem cycN_size (j : Nat) : (cycN j).size ≤ 40 := by
  unfold cycN
  split
  · decide
  · split <;> decide
/-- Four definitions: a query, three fragments of different names. -/
structure CycF (l : List De) : Prop where
  bd : DefsBd 1048576 l
  len : l.length = 4
  dis : ∀ x ∈ l, (x.k == 3) = true → l.find? (isFr x.nm) = some x
  sz : ∀ x ∈ l, x.sels.size ≤ 1000
  all : (allSp l).length ≤ 1000
  f : ∃ x, l.find? (isFr ⟨#[102]⟩) = some x ∧ x.nm = ⟨#[102]⟩ ∧ x.on = ⟨#[78, 111, 100, 101]⟩ ∧ 1 ≤ x.sels.len
  no : l.find? (isFr ⟨#[110, 111, 116, 104, 105, 110, 103]⟩) = none
  fr : (frsOf l).length = 3
  op : opsN l = 1
  opL : (opL l).k = 1
set_option maxHeartbeats 2000000 in
theorem CycD.f {l : List De} (h : CycD l) (hl : l.length = 4) : CycF l := by
  match l, hl with
  | [x0, x1, x2, x3], _ =>
    obtain ⟨⟨k0, n0, o0⟩, -, b0, c0, s0⟩ : (_ ∧ _ ∧ _) ∧ True ∧ _ := by
      have := h 0 (by simp)
      exact ⟨this.1 rfl, trivial, this.2.2⟩
    obtain ⟨⟨k1, n1, o1⟩, b1, c1, s1⟩ : (_ ∧ _ ∧ _) ∧ _ := by
      have := h 1 (by simp)
      exact ⟨this.2.1 (by omega), this.2.2⟩
    obtain ⟨⟨k2, n2, o2⟩, b2, c2, s2⟩ : (_ ∧ _ ∧ _) ∧ _ := by
      have := h 2 (by simp)
      exact ⟨this.2.1 (by omega), this.2.2⟩
    obtain ⟨⟨k3, n3, o3⟩, b3, c3, s3⟩ : (_ ∧ _ ∧ _) ∧ _ := by
      have := h 3 (by simp)
      exact ⟨this.2.1 (by omega), this.2.2⟩
    simp only [List.getElem_cons_zero, List.getElem_cons_succ] at k0 n0 o0 b0 c0 s0 k1 n1 o1 b1 c1 s1 k2 n2 o2 b2 c2 s2 k3 n3 o3 b3 c3 s3
    have e1 : cycN (1 - 1) = ⟨#[102]⟩ := rfl
    have e2 : cycN (2 - 1) = ⟨#[103]⟩ := rfl
    have e3 : cycN (3 - 1) = ⟨#[104]⟩ := rfl
    rw [e1] at n1
    rw [e2] at n2
    rw [e3] at n3
    have kk0 : (x0.k == 3) = false := by rw [k0]; rfl
    have kk1 : (x1.k == 3) = true := by rw [k1]; rfl
    have kk2 : (x2.k == 3) = true := by rw [k2]; rfl
    have kk3 : (x3.k == 3) = true := by rw [k3]; rfl
    have f0 : ∀ s, isFr s x0 = false := fun s => by unfold isFr; rw [kk0]; rfl
    have f1 : ∀ s, isFr s x1 = ((⟨#[102]⟩ : ByteArray).toList == s.toList) := fun s => by unfold isFr; rw [kk1, n1]; rfl
    have f2 : ∀ s, isFr s x2 = ((⟨#[103]⟩ : ByteArray).toList == s.toList) := fun s => by unfold isFr; rw [kk2, n2]; rfl
    have f3 : ∀ s, isFr s x3 = ((⟨#[104]⟩ : ByteArray).toList == s.toList) := fun s => by unfold isFr; rw [kk3, n3]; rfl
    have mem : ∀ x ∈ [x0, x1, x2, x3], x.sels.size ≤ 120 ∧ DeBd 1048576 x := fun x hx => by
      simp only [List.mem_cons, List.not_mem_nil, or_false] at hx
      have hn : ∀ s : Sels, s.size ≤ 120 → s.len ≤ 1048576 := fun s hs => by have := sels_len_size s; omega
      rcases hx with rfl | rfl | rfl | rfl
      · exact ⟨s0, by rw [n0]; decide, by rw [o0]; decide, hn _ s0, b0.up (by decide)⟩
      · exact ⟨s1, by rw [n1]; decide, by rw [o1]; decide, hn _ s1, b1.up (by decide)⟩
      · exact ⟨s2, by rw [n2]; decide, by rw [o2]; decide, hn _ s2, b2.up (by decide)⟩
      · exact ⟨s3, by rw [n3]; decide, by rw [o3]; decide, hn _ s3, b3.up (by decide)⟩
    have t1 : ((⟨#[102]⟩ : ByteArray).toList == (⟨#[103]⟩ : ByteArray).toList) = false := by decide +kernel
    have t2 : ((⟨#[102]⟩ : ByteArray).toList == (⟨#[104]⟩ : ByteArray).toList) = false := by decide +kernel
    have t3 : ((⟨#[103]⟩ : ByteArray).toList == (⟨#[104]⟩ : ByteArray).toList) = false := by decide +kernel
    have q1 : ((⟨#[102]⟩ : ByteArray).toList == (⟨#[110, 111, 116, 104, 105, 110, 103]⟩ : ByteArray).toList) = false := by decide +kernel
    have q2 : ((⟨#[103]⟩ : ByteArray).toList == (⟨#[110, 111, 116, 104, 105, 110, 103]⟩ : ByteArray).toList) = false := by decide +kernel
    have q3 : ((⟨#[104]⟩ : ByteArray).toList == (⟨#[110, 111, 116, 104, 105, 110, 103]⟩ : ByteArray).toList) = false := by decide +kernel
    have r1 : [x0, x1, x2, x3].find? (isFr ⟨#[102]⟩) = some x1 := by simp [List.find?, f0, f1]
    have r2 : [x0, x1, x2, x3].find? (isFr ⟨#[103]⟩) = some x2 := by simp only [List.find?, f0, f1, f2, t1, beq_self_eq_true]
    have r3 : [x0, x1, x2, x3].find? (isFr ⟨#[104]⟩) = some x3 := by simp only [List.find?, f0, f1, f2, f3, t2, t3, beq_self_eq_true]
    have a0 : addFr [] x0 = [] := by unfold addFr; rw [kk0]; rfl
    have a1 : addFr [] x1 = [x1] := by unfold addFr; rw [kk1]; rfl
    have a2 : addFr [x1] x2 = [x1, x2] := by
      unfold addFr; rw [kk2]
      have : hasNm [x1] x2.nm = false := by simp only [hasNm, List.any_cons, List.any_nil, n1, n2, t1, Bool.or_self]
      rw [this]; rfl
    have a3 : addFr [x1, x2] x3 = [x1, x2, x3] := by
      unfold addFr; rw [kk3]
      have : hasNm [x1, x2] x3.nm = false := by simp only [hasNm, List.any_cons, List.any_nil, n1, n2, n3, t2, t3, Bool.or_self]
      rw [this]; rfl
    refine ⟨⟨by simp, fun x hx => (mem x hx).2⟩, rfl, fun x hx h3 => ?_, fun x hx => by have := (mem x hx).1; omega, ?_, ⟨x1, r1, n1, o1, c1⟩, ?_, ?_, ?_, ?_⟩
    · simp only [List.mem_cons, List.not_mem_nil, or_false] at hx
      rcases hx with rfl | rfl | rfl | rfl
      · rw [kk0] at h3; cases h3
      · rw [n1]; exact r1
      · rw [n2]; exact r2
      · rw [n3]; exact r3
    · have z : ∀ x : De, x.sels.size ≤ 120 → (sprdL x.sels).length ≤ 120 := fun x hx => by unfold sprdL; rw [List.length_map]; exact Nat.le_trans (sprd_len _) hx
      have z0 := z x0 s0
      have z1 := z x1 s1
      have z2 := z x2 s2
      have z3 := z x3 s3
      simp only [allSp, List.flatMap_cons, List.flatMap_nil, List.length_append, List.length_nil]
      omega
    · simp only [List.find?, f0, f1, f2, f3, q1, q2, q3]
    · simp only [frsOf, List.foldl_cons, List.foldl_nil, a0, a1, a2, a3, List.length_cons, List.length_nil]
    · simp only [opsN, kk0, kk1, kk2, kk3]; rfl
    · simp only [opL, List.foldl_cons, List.foldl_nil, kk0, kk1, kk2, kk3, if_true]
      exact k0
set_option maxHeartbeats 2000000 in
/-- The laws' draw of such a document. -/
theorem cyclic_doc (n c : Nat) (a : Option Addr) (w : World) (hr : ByteRow w.heap.size w a n) (hn : n ≤ 1048576) :
    Calls Try.prog 4 #[.slice a n c] w fun e w' => (∃ (l : List De) (a' : Option Addr) (c' : Nat), e = .returned (.agg #[.slice a' l.length c']) ∧ CycF l ∧ DeRow 0 w'.heap.size w' a' l) ∧ Below w.heap.size w w' := by
  obtain ⟨V, hV⟩ : ∃ V, V = w.alloc (.cells #[.slice none 0 0] 25) := ⟨_, rfl⟩
  have b0 : Below w.heap.size w V := by rw [hV]; exact (Below.refl _ _).alloc (Nat.le_refl _) _
  have zV : V.heap.size = w.heap.size + 1 := by rw [hV]; simp
  have c0 : V.heap[w.heap.size]? = some (.cells #[.slice none 0 0] 25 (0, 0)) := by rw [hV]; exact heap_alloc_new _ _
  have HR : Hid (ByteRow w.heap.size V a n) := ByteRow.up hr (Nat.le_refl _) b0
  have C0 : Hid _ := c0
  have B0 : Hid _ := b0
  clear hr c0 b0
  go_enter Try.func4, Try.ntmps4
  go_upto_region 1 with fail
  rw [← hV]
  clear hV
  go_wp2_with fail
  refine (source_any n c a V hn).mono ?_
  rintro e w1 ⟨rfl, s1, b1⟩
  have z1 := (show SrcSt w1 V.heap.size a n 0 from s1).lt
  have S1 : Hid _ := s1
  have R1 : Hid (ByteRow V.heap.size w1 a n) := by
    rcases HR.out with h | ⟨b, o, e, h1, h2, h3⟩
    · exact .inl h
    · refine .inr ⟨b, o, e, by omega, by omega, fun i hi => ?_⟩
      obtain ⟨x, hx, e⟩ := h3 i hi
      exact ⟨x, hx, (World.cell?_of_block (w := V) (b1.block b (by omega))).trans e⟩
  have B1 : Hid _ := b1
  clear s1 b1
  go_wp2_with fail
  rw [← zV]
  refine (nd_cyclic V.heap.size n 0 a w1 S1.out R1.out (by omega) hn).mono ?_
  rintro e w2 ⟨⟨l, a', c', vs, bs, ⟨hc, hl, hd⟩, rfl⟩, s2, g2⟩
  have C2 : Hid (w2.heap[w.heap.size]? = some (.cells #[.slice none 0 0] 25 (0, 0))) := (g2.block _ (by omega) (by simp; omega)).trans ((B1.out.block _ (by omega)).trans C0.out)
  have HF : Hid (CycF l) := hc.f hl
  have HB : Hid (Below w.heap.size w w2) := ((B0.out.trans (B1.out.mono (by omega))).grown g2 (by omega) (fun k hk => by simp only [Option.some.injEq] at hk; omega))
  have HD : Hid (DeRow 0 w2.heap.size (w2.setCell ⟨w.heap.size, 0, none⟩ (.slice a' l.length c')) a' l) := by
    have hk := hd.keep (W' := w2.setCell ⟨w.heap.size, 0, none⟩ (.slice a' l.length c')) (by simp [World.setCell]) (fun g hg => heap_setCell_other _ _ _ _ (by show g ≠ w.heap.size; have := (hd.all g hg).1; omega))
    have := DeRow.wide (lo' := 0) hk.row (Nat.zero_le _) (Nat.le_refl _)
    have hz : (w2.setCell ⟨w.heap.size, 0, none⟩ (.slice a' l.length c')).heap.size = w2.heap.size := by simp [World.setCell]
    rw [hz] at this
    exact this
  have y2 := fun o => row_cell C2.out o
  have f2 := fun o => row_frozen C2.out o
  clear hc hl hd s2 g2
  go_wp2_with fail
  refine bodyPost_ret (v := .agg #[.slice a' l.length c']) (by simp [results, Try.results4, go_sem, y2]) rfl ⟨⟨l, a', c', rfl, HF.out, ?_⟩, ?_⟩
  · simpa using HD.out
  · exact HB.out.setCell (by simp) _
set_option maxHeartbeats 2000000 in
theorem impl_has (a : Option Addr) (c : Nat) (l : List De) (w : World) (hr : DeRow 0 w.heap.size w a l) (hf : CycF l) (hd : docB l = true) :
    Calls Try.prog 8 #[.agg #[.slice a l.length c]] w fun e w' => (∃ y, e = .returned (.tuple #[.bool y, .int .i64 0]) ∧ (y = true ↔ Cyc l)) ∧ Below w.heap.size w w' := by
  have b0 : Below w.heap.size w (w.alloc (.cells #[.slice a l.length c] 25)) := (Below.refl _ _).alloc (Nat.le_refl _) _
  have c0 := heap_alloc_new w (.cells #[.slice a l.length c] 25)
  have z0 := (Array.getElem?_eq_some_iff.1 c0).1
  obtain ⟨V, hV⟩ : ∃ V, V = w.alloc (.cells #[.slice a l.length c] 25) := ⟨_, rfl⟩
  rw [← hV] at b0 c0 z0
  have HK : Hid (∀ W, Below V.heap.size V W → DeRow 0 W.heap.size W a l ∧ W.heap[w.heap.size]? = some (.cells #[.slice a l.length c] 25 (0, 0)) ∧ Below w.heap.size w W) := fun W h =>
    ⟨DeRow.up (DeRow.up hr b0) h, (h.block _ z0).trans c0, b0.trans (h.mono b0.size)⟩
  have HD : Hid (docB l = true) := hd
  have x0 := fun o => row_cell c0 o
  clear hr hd b0 c0 z0
  go_enter Try.func8, Try.ntmps8
  go_upto_region 1 with fail
  rw [← hV]
  clear hV
  go_wp2_with fail
  refine (impl_doc a c l V (HK.out V (Below.refl _ _)).1 hf.bd.1 hf.bd.2).mono ?_
  rintro e w1 ⟨rfl, b1⟩
  rw [HD.out]
  have x1 := fun o => row_cell (HK.out w1 b1).2.1 o
  have B1 : Hid _ := b1
  clear b1 x0
  go_wp2_with fail
  refine (cycle_fault a c l w1 (HK.out w1 B1.out).1 hf.bd).mono ?_
  rintro e w2 ⟨⟨y, rfl, hy⟩, b2⟩
  have HB : Hid (Below w.heap.size w w2) := (HK.out w2 (B1.out.trans (b2.mono B1.out.size))).2.2
  clear b2
  rcases hy with ⟨rfl, hy⟩ | ⟨rfl, hy⟩
  · go_wp2_with fail
    exact bodyPost_ret (v := .tuple #[.bool true, .int .i64 0]) (by simp [results, Try.results8, go_sem]) rfl ⟨⟨true, rfl, by simp [hy]⟩, HB.out⟩
  · go_wp2_with fail
    exact bodyPost_ret (v := .tuple #[.bool false, .int .i64 0]) (by simp [results, Try.results8, go_sem]) rfl ⟨⟨false, rfl, by simp [hy]⟩, HB.out⟩
set_option maxHeartbeats 2000000 in
theorem spec_has_cycle (a : Option Addr) (c : Nat) (l : List De) (w : World) (hr : DeRow 0 w.heap.size w a l) (hf : CycF l) (hd : docB l = true) :
    Calls Try.prog 9 #[.agg #[.slice a l.length c]] w fun e w' => (∃ y, e = .returned (.tuple #[.bool y, .int .i64 0]) ∧ (y = true ↔ Cyc l)) ∧ Below w.heap.size w w' := by
  have b0 : Below w.heap.size w (w.alloc (.cells #[.slice a l.length c] 25)) := (Below.refl _ _).alloc (Nat.le_refl _) _
  have c0 := heap_alloc_new w (.cells #[.slice a l.length c] 25)
  have z0 := (Array.getElem?_eq_some_iff.1 c0).1
  obtain ⟨V, hV⟩ : ∃ V, V = w.alloc (.cells #[.slice a l.length c] 25) := ⟨_, rfl⟩
  rw [← hV] at b0 c0 z0
  have HK : Hid (∀ W, Below V.heap.size V W → DeRow 0 W.heap.size W a l ∧ W.heap[w.heap.size]? = some (.cells #[.slice a l.length c] 25 (0, 0)) ∧ Below w.heap.size w W) := fun W h =>
    ⟨DeRow.up (DeRow.up hr b0) h, (h.block _ z0).trans c0, b0.trans (h.mono b0.size)⟩
  have HD : Hid (docB l = true) := hd
  have x0 := fun o => row_cell c0 o
  clear hr hd b0 c0 z0
  go_enter Try.func9, Try.ntmps9
  go_upto_region 1 with fail
  rw [← hV]
  clear hV
  go_wp2_with fail
  refine (spec_doc a c l V (HK.out V (Below.refl _ _)).1 hf.bd.1 hf.bd.2).mono ?_
  rintro e w1 ⟨rfl, b1⟩
  rw [HD.out]
  have x1 := fun o => row_cell (HK.out w1 b1).2.1 o
  have B1 : Hid _ := b1
  clear b1 x0
  go_wp2_with fail
  refine (spec_cycle a c l w1 (HK.out w1 B1.out).1 hf.bd hf.dis hf.sz hf.all).mono ?_
  rintro e w2 ⟨⟨y, rfl, hy⟩, b2⟩
  have HB : Hid (Below w.heap.size w w2) := (HK.out w2 (B1.out.trans (b2.mono B1.out.size))).2.2
  clear b2
  go_wp2_with fail
  exact bodyPost_ret (v := .tuple #[.bool y, .int .i64 0]) (by simp [results, Try.results9, go_sem]) rfl ⟨⟨y, rfl, hy⟩, HB.out⟩
end Go.Proofs.Ytajjaddlalbnmaa
namespace Go.Proofs.Ytajjaddlalbnmaa
open Go.ChangeShapes Go.WideShapes Go.ChangeAt Go.RowKit Go.Maps
open Go.Proofs.Ytajjaddlalbnmaa.G (row_cell row_frozen row_set)
set_option linter.unusedVariables false

theorem SelsBd.len {x : De} (h : DeBd 1048576 x) : x.sels.len ≤ 1048576 := h.2.2.1
set_option maxHeartbeats 16000000 in
set_option maxRecDepth 40000 in
theorem fn_frag (n c : Nat) (a : Option Addr) (w : World) (hr : ByteRow w.heap.size w a n) :
    Calls Try.prog 3 #[.slice a n c] w fun e w' => e = .returned (.bool true) ∧ Below w.heap.size w w' := by
  have HA : Hid _ := hr
  clear hr
  by_cases h1 : 1048576 < n
  · have h1' : (1048576 : Int) < n := by omega
    go_enter Try.func3, Try.ntmps3
    go_wp2_with fail
    go_ret
    exact ⟨rfl, Below.refl _ _⟩
  have h1' : ¬ (1048576 : Int) < n := by omega
  go_enter Try.func3, Try.ntmps3
  go_wp2_with fail
  refine (cyclic_doc n c a _ HA.out (by omega)).mono ?_
  rintro e w1 ⟨⟨l, a1, c1, rfl, hf, r1⟩, b1⟩
  have HF : Hid (CycF l) := hf
  have R1 : Hid (DeRow 0 w1.heap.size w1 a1 l) := r1
  have B1 : Hid _ := b1
  have z1 := b1.size
  clear hf r1 b1
  obtain ⟨w2, hw2⟩ : ∃ x : World, x = w1.alloc (.cells #[.slice a1 l.length c1] 25) := ⟨_, rfl⟩
  have b2 : Below w1.heap.size w1 w2 := by rw [hw2]; exact (Below.refl _ _).alloc (Nat.le_refl _) _
  have k2 : w2.heap[w1.heap.size]? = some (.cells #[.slice a1 l.length c1] 25 (0, 0)) := by rw [hw2]; exact heap_alloc_new _ _
  have zk := (Array.getElem?_eq_some_iff.1 k2).1
  obtain ⟨S, hS⟩ : ∃ S, S = w1.heap.size := ⟨_, rfl⟩
  rw [← hS] at k2 zk
  have T : Hid (∀ W, Below w2.heap.size w2 W → W.heap[S]? = some (.cells #[.slice a1 l.length c1] 25 (0, 0)) ∧ DeRow 0 W.heap.size W a1 l ∧ Below w.heap.size w W) := fun W hW => by
    have h2 : Below w1.heap.size w1 W := b2.trans (hW.mono b2.size)
    exact ⟨(hW.block _ zk).trans k2, DeRow.up R1.out h2, B1.out.trans (h2.mono z1)⟩
  go_upto_region 4 with fail
  rw [← hw2, ← hS]
  clear hw2 b2 k2 zk hS R1 B1 HA z1
  have x2 := fun o => row_cell (T.out _ (Below.refl _ _)).1 o
  go_wp2_with fail
  refine (spec_doc a1 c1 l _ (T.out _ (Below.refl _ _)).2.1 HF.out.bd.1 HF.out.bd.2).mono ?_
  rintro e w3 ⟨rfl, b3⟩
  have B3 : Hid (Below w2.heap.size w2 w3) := b3
  have x3 := fun o => row_cell (T.out _ b3).1 o
  clear b3 x2
  cases hdb : docB l
  · go_wp2_with fail
    refine (impl_doc a1 c1 l _ (T.out _ B3.out).2.1 HF.out.bd.1 HF.out.bd.2).mono ?_
    rw [hdb]
    rintro e w4 ⟨rfl, b4⟩
    have B4 : Hid (Below w.heap.size w w4) := (T.out _ (B3.out.trans (b4.mono B3.out.size))).2.2
    clear b4 x3
    go_wp2_with fail
    go_ret
    exact ⟨rfl, B4.out⟩
  have HD : Hid (docB l = true) := hdb
  clear hdb
  go_wp2_with fail
  refine (impl_fragOf a1 c1 l ⟨#[102]⟩ _ (T.out _ B3.out).2.1 HF.out.bd (by decide)).mono ?_
  rintro e w4 ⟨⟨x, y, a4, c4, rfl, hx, -⟩, b4⟩
  obtain ⟨hy, hxn, hxo, hxl⟩ : y = 0 ∧ x.nm = ⟨#[102]⟩ ∧ x.on = ⟨#[78, 111, 100, 101]⟩ ∧ 1 ≤ x.sels.len := by
    obtain ⟨x', f1, f2, f3, f4⟩ := HF.out.f
    rcases hx with ⟨q, -⟩ | ⟨-, q, -⟩ | ⟨-, -, q, -⟩ | ⟨-, -, q, q2⟩
    · exact absurd q (by decide)
    · rw [HD.out] at q; cases q
    · rw [f1] at q; cases q
    · rw [f1] at q
      cases q
      exact ⟨q2, f2, f3, f4⟩
  subst hy
  have B4 : Hid (Below w2.heap.size w2 w4) := B3.out.trans (b4.mono B3.out.size)
  have z4 := B4.out.size
  have HXL : Hid (1 ≤ x.sels.len) := hxl
  clear b4 x3 hx hxl B3
  rw [show deV x a4 c4 = .agg #[.int .i64 x.k, .string x.nm, .string x.on, .slice a4 x.sels.len c4] from rfl, hxn, hxo]
  obtain ⟨w5, hw5⟩ : ∃ z : World, z = w4.alloc (.cells #[.int .i64 x.k, .string ⟨#[102]⟩, .string ⟨#[78, 111, 100, 101]⟩, .slice a4 x.sels.len c4] 30) := ⟨_, rfl⟩
  have b5 : Below w4.heap.size w4 w5 := by rw [hw5]; exact (Below.refl _ _).alloc (Nat.le_refl _) _
  have k5 : w5.heap[w4.heap.size]? = some (.cells #[.int .i64 x.k, .string ⟨#[102]⟩, .string ⟨#[78, 111, 100, 101]⟩, .slice a4 x.sels.len c4] 30 (0, 0)) := by rw [hw5]; exact heap_alloc_new _ _
  have zk := (Array.getElem?_eq_some_iff.1 k5).1
  obtain ⟨S5, hS⟩ : ∃ S, S = w4.heap.size := ⟨_, rfl⟩
  rw [← hS] at k5 zk
  have T5 : Hid (∀ W, Below w5.heap.size w5 W → W.heap[S]? = some (.cells #[.slice a1 l.length c1] 25 (0, 0)) ∧ W.heap[S5]? = some (.cells #[.int .i64 x.k, .string ⟨#[102]⟩, .string ⟨#[78, 111, 100, 101]⟩, .slice a4 x.sels.len c4] 30 (0, 0)) ∧ DeRow 0 W.heap.size W a1 l ∧ Below w.heap.size w W) := fun W hW => by
    have t := T.out W (B4.out.trans ((b5.trans (hW.mono b5.size)).mono z4))
    exact ⟨t.1, (hW.block _ zk).trans k5, t.2⟩
  go_upto_region 7 with fail
  rw [← hw5, ← hS]
  clear hw5 b5 k5 zk hS T B4 z4
  have x5 := fun o => row_cell (T5.out _ (Below.refl _ _)).1 o
  go_wp2_with fail
  refine (impl_fragOf a1 c1 l ⟨#[110, 111, 116, 104, 105, 110, 103]⟩ _ (T5.out _ (Below.refl _ _)).2.2.1 HF.out.bd (by decide)).mono ?_
  rintro e w6 ⟨⟨x6, y6, a6, c6, rfl, hx6, -⟩, b6⟩
  have hy6 : y6 = 5 := by
    have f1 := HF.out.no
    rcases hx6 with ⟨q, -⟩ | ⟨-, q, -⟩ | ⟨-, -, -, -, q⟩ | ⟨-, -, q, -⟩
    · exact absurd q (by decide)
    · rw [HD.out] at q; cases q
    · exact q
    · rw [f1] at q; cases q
  subst hy6
  have B6 : Hid (Below w5.heap.size w5 w6) := b6
  have z6 := b6.size
  clear b6 x5 hx6
  rw [show deV x6 a6 c6 = .agg #[.int .i64 x6.k, .string x6.nm, .string x6.on, .slice a6 x6.sels.len c6] from rfl]
  obtain ⟨w7, hw7⟩ : ∃ z : World, z = w6.alloc (.cells #[.int .i64 x6.k, .string x6.nm, .string x6.on, .slice a6 x6.sels.len c6] 30) := ⟨_, rfl⟩
  have b7 : Below w6.heap.size w6 w7 := by rw [hw7]; exact (Below.refl _ _).alloc (Nat.le_refl _) _
  have B7 : Hid (Below w5.heap.size w5 w7) := B6.out.trans (b7.mono z6)
  obtain ⟨S7, hS⟩ : ∃ S, S = w6.heap.size := ⟨_, rfl⟩
  go_upto_region 8 with fail
  rw [← hw7, ← hS]
  clear hw7 b7 hS B6 z6
  have z7 := B7.out.size
  have x7 := fun o => row_cell (T5.out _ B7.out).1 o
  go_wp2_with fail
  refine (impl_has a1 c1 l _ (T5.out _ B7.out).2.2.1 HF.out HD.out).mono ?_
  rintro e w8 ⟨⟨y8, rfl, hy8⟩, b8⟩
  have H8 : Hid (y8 = true ↔ Cyc l) := hy8
  have B8 : Hid (Below w5.heap.size w5 w8) := B7.out.trans (b8.mono z7)
  clear b8 x7 hy8 B7 z7
  have z8 := B8.out.size
  have x8 := fun o => row_cell (T5.out _ B8.out).1 o
  go_wp2_with fail
  refine (spec_has_cycle a1 c1 l _ (T5.out _ B8.out).2.2.1 HF.out HD.out).mono ?_
  rintro e w9 ⟨⟨y9, rfl, hy9⟩, b9⟩
  have hyy : y9 = y8 := by
    have h8 := H8.out
    cases y8 <;> cases y9 <;> simp_all
  subst hyy
  have B9 : Hid (Below w5.heap.size w5 w9) := B8.out.trans (b9.mono z8)
  clear b9 x8 hy9 B8 z8 H8
  have z9 := B9.out.size
  have x9 := fun o => row_cell (T5.out _ B9.out).1 o
  go_wp2_with fail
  refine (impl_opOf a1 c1 l _ (T5.out _ B9.out).2.2.1 HF.out.bd).mono ?_
  rintro e w10 ⟨⟨x10, y10, a10, c10, rfl, hx10, -⟩, b10⟩
  obtain ⟨hy10, hk10⟩ : y10 = 0 ∧ x10.k = 1 := by
    have f1 := HF.out.fr
    have f2 := HF.out.op
    have f3 := HF.out.len
    have f4 := HF.out.opL
    rcases hx10 with ⟨q, -⟩ | ⟨-, ⟨q, -⟩ | ⟨-, ⟨q, -⟩ | ⟨q, -⟩ | ⟨-, q1, q2⟩⟩⟩
    · rw [HD.out] at q; cases q
    · omega
    · omega
    · omega
    · exact ⟨q2, by rw [q1]; exact f4⟩
  subst hy10
  have B10 : Hid (Below w5.heap.size w5 w10) := B9.out.trans (b10.mono z9)
  clear b10 x9 hx10 B9 z9
  have z10 := B10.out.size
  rw [show deV x10 a10 c10 = .agg #[.int .i64 x10.k, .string x10.nm, .string x10.on, .slice a10 x10.sels.len c10] from rfl, hk10]
  obtain ⟨w11, hw11⟩ : ∃ z : World, z = w10.alloc (.cells #[.int .i64 1, .string x10.nm, .string x10.on, .slice a10 x10.sels.len c10] 30) := ⟨_, rfl⟩
  have b11 : Below w10.heap.size w10 w11 := by rw [hw11]; exact (Below.refl _ _).alloc (Nat.le_refl _) _
  have k11 : w11.heap[w10.heap.size]? = some (.cells #[.int .i64 1, .string x10.nm, .string x10.on, .slice a10 x10.sels.len c10] 30 (0, 0)) := by rw [hw11]; exact heap_alloc_new _ _
  have B11 : Hid (Below w5.heap.size w5 w11) := B10.out.trans (b11.mono z10)
  obtain ⟨S11, hS⟩ : ∃ S, S = w10.heap.size := ⟨_, rfl⟩
  rw [← hS] at k11
  go_upto_region 11 with fail
  rw [← hw11, ← hS]
  clear hw11 b11 hS B10 z10
  have t5 := T5.out _ B11.out
  have y5 := fun o => row_cell t5.2.1 o
  have y11 := fun o => row_cell k11 o
  have hlen : (0 : Int) < (x.sels.len : Int) := by have := HXL.out; omega
  have BE : Hid (Below w11.heap.size w11 w11 ∧ Below w.heap.size w w11) := ⟨Below.refl _ _, t5.2.2.2⟩
  clear t5
  go_wp2_with fail
  refine (impl_val ⟨3, 0, ⟨#[]⟩⟩ _ (by decide)).mono ?_
  rw [show valB ⟨3, 0, ⟨#[]⟩⟩ = true by decide +kernel]
  rintro e w12 ⟨rfl, b12⟩
  have HE : Hid (Below w.heap.size w w12) := BE.out.2.trans (b12.mono BE.out.2.size)
  clear b12 y5 y11
  go_wp2_with fail
  go_ret
  exact ⟨rfl, HE.out⟩
end Go.Proofs.Ytajjaddlalbnmaa
