/- A drawn value of an answer: lists and objects. -/
import Derived.Test.YtoaeggfnlenjkaaGreatDoorOuDrawJ
namespace Go.Proofs.YtoaeggfnlenjkaaGreatDoor.G
open Go.ChangeShapes Go.WideShapes Go.ChangeAt Go.RowKit
set_option linter.unusedVariables false

theorem key_at {W : World} {g i : Nat} (hi : i < 3) (h : W.heap[g]? = some (.cells #[.string lB, .string lA, .string lC] 9 (0, 0))) : W.cell? ⟨g, i, none⟩ = some (.string (keyAtD i)) := by
  rw [row_cell h i]
  match i, hi with
  | 0, _ => rfl
  | 1, _ => rfl
  | 2, _ => rfl
theorem own_keys {w : World} {base : Nat} {v : Value} {l : List ByteArray} (h : w.ownsRow base 9 1 v l.length (kV l)) : ∃ a c, v = .slice a l.length c ∧ l.length ≤ c ∧ KeRow base w.heap.size w a l := by
  rcases h.2 with ⟨rfl, h0⟩ | ⟨g, cap, cur, rfl, h1, h2, h3, h4, h5, h6⟩
  · have : l = [] := List.eq_nil_of_length_eq_zero h0
    subst this
    exact ⟨none, 0, rfl, Nat.le_refl _, .inl rfl⟩
  · refine ⟨_, cap, rfl, h3, .inr ⟨g, 0, rfl, h1, (Array.getElem?_eq_some_iff.1 h2).1, fun i z hz => ?_⟩⟩
    have hi := (List.getElem?_eq_some_iff.1 hz).1
    rw [row_rd h2]
    show cur[0 + i * 1]? = _
    rw [Nat.mul_one, Nat.zero_add]
    have e : (kV l)[i]? = some (.string z) := by simp [kV, hz]
    rw [← h6, List.getElem?_take, if_pos (by omega)] at e
    simpa using e
theorem putV_other (W : World) (R : Nat) (v0 v1 v2 v3 v4 : Value) (g : Nat) (h : g ≠ R) : (putV W R v0 v1 v2 v3 v4).heap[g]? = W.heap[g]? := by
  unfold putV
  rw [heap_set _ _ _ _ _ h, heap_set _ _ _ _ _ h, heap_set _ _ _ _ _ h, heap_set _ _ _ _ _ h, heap_set _ _ _ _ _ h]
theorem putV_size (W : World) (R : Nat) (v0 v1 v2 v3 v4 : Value) : (putV W R v0 v1 v2 v3 v4).heap.size = W.heap.size := by simp [putV]
/-- A list or an object, put into the result's block. -/
theorem group_end {w W : World} {d L n k N1 : Nat} {a : Option Addr} {kd : Int} {ks : List ByteArray} {pre : List (Oh × Ous)} {b1 b2 : Option Addr} {f1 f2 : Nat} {vs : List Value} (hp : w.heap.size ≤ w.heap.size ∧ L < w.heap.size ∧ w.heap.size < N1 ∧ N1 < N1 + 1) (hI : OuIn w L w.heap.size N1 (N1 + 1) a n (k + 1 + 3 * (1 + choD d)) kd ks (.slice b1 ks.length f1) (.slice b2 pre.length f2) vs pre W) (hk : KindIn kd 3 ks pre) (hd : allD d pre) (act : Act) (h4 : act.tmps.getD 4 undef = .pointer (some ⟨w.heap.size, 0, none⟩)) (hdef : act.defers = []) :
    bodyPost Tryz.prog Tryz.f33 (OutIs w (d + 1) L n k a) Exit.ret act (putV W w.heap.size (.int .i64 kd) (.int .i64 0) (.string ⟨#[]⟩) (.slice b1 ks.length f1) (.slice b2 pre.length f2)) := by
  obtain ⟨a1, c1, e1, h1, R1⟩ := own_keys hI.keys
  simp only [Value.slice.injEq] at e1
  obtain ⟨rfl, _, rfl⟩ := e1
  obtain ⟨a2, c2, e2, R2⟩ := KidsO.row hI.own rfl hI.kids.one (lo' := N1 + 1) (Nat.le_refl _) (Nat.le_refl _)
  simp only [Value.slice.injEq] at e2
  obtain ⟨rfl, _, rfl⟩ := e2
  have hA : Agree (N1 + 1) W.heap.size W (putV W w.heap.size (.int .i64 kd) (.int .i64 0) (.string ⟨#[]⟩) (.slice b1 ks.length f1) (.slice b2 pre.length f2)) := fun g g1 g2 => putV_other _ _ _ _ _ _ _ _ (by omega)
  have hl : (appO pre .nil).len = pre.length := by rw [appO_len]; rfl
  refine bodyPost_ret (v := .agg #[.int .i64 kd, .int .i64 0, .string ⟨#[]⟩, .slice b1 ks.length f1, .slice b2 pre.length f2]) (res_row _ _ w.heap.size _ h4 (putV_row hI.res _ _ _ _ _) rfl) hdef ⟨⟨⟨kd, 0, ⟨#[]⟩, ks⟩, appO pre .nil, b1, b2, f1, f2, by rw [hl], h1, ?_, ?_, kind_drawn hk hd⟩, ?_, ?_⟩
  · exact KeRow.wide (KeRow.keep R1 hA) (by omega) (by rw [putV_size]; exact Nat.le_refl _)
  · exact OuRow.wide (OuRow.keep R2 hA) (by omega) (by rw [putV_size]; exact Nat.le_refl _)
  · exact (putV_src hI.src (by omega) _ _ _ _ _).more (by show _ ≤ k + (4 + 3 * (1 + choD d)); omega)
  · exact putV_grown hI.grown (Nat.le_refl _) _ _ _ _ _
theorem five_one' {k n : Int} {t : ByteArray} {b1 b2 : Option Addr} {n1 n2 f1 f2 : Nat} : ∀ u ∈ ([.int .i64 k, .int .i64 n, .string t, .slice b1 n1 f1, .slice b2 n2 f2] : List Value), u.oneCell' = true := by
  intro u hu
  simp only [List.mem_cons, List.not_mem_nil, or_false] at hu
  rcases hu with rfl | rfl | rfl | rfl | rfl <;> rfl
/-- Where the loop stands at the place i. -/
def OuAt (w : World) (L R B N0 : Nat) (sa : Option Addr) (n k d : Nat) (kd : Int) (i : Nat) (W : World) : Prop :=
  ∃ (ks : List ByteArray) (kv v : Value) (vs : List Value) (pre : List (Oh × Ous)), OuIn w L R B N0 sa n (k + 1 + i * (1 + choD d)) kd ks kv v vs pre W ∧ KindIn kd i ks pre ∧ allD d pre ∧ N0 ≤ W.heap.size ∧ (∃ a c, kv = .slice a ks.length c) ∧ (∃ a c, v = .slice a pre.length c)
set_option maxHeartbeats 16000000 in
set_option maxRecDepth 40000 in
theorem out_succ (d : Nat) (hd : d ≤ 2) (IH : OutAny d) : OutAny (d + 1) := by
  intro L n k a w h hr hk hn
  have hL := h.lt
  have hcho : choD (d + 1) = 4 + 3 * (1 + choD d) := rfl
  obtain ⟨C, hC⟩ : ∃ C, C = choD d := ⟨_, rfl⟩
  have hCb : C ≤ 1000 := by
    rw [hC]
    match d, hd with
    | 0, _ => decide
    | 1, _ => decide
    | 2, _ => decide
  obtain ⟨dd, hdd⟩ : ∃ x : Nat, x = d + 1 := ⟨_, rfl⟩
  have hkk : k + 4 + 3 * (1 + C) ≤ 100000 := by rw [hC]; rw [hcho] at hk; omega
  have HD : Hid (dd = d + 1) := hdd
  have HI : Hid (OutAny d) := IH
  have hdd3 : (dd : Int) ≤ 3 := by omega
  have HWR : Hid (IntKind.i64.wrap ((dd : Int) - 1) = (dd : Int) - 1) := by
    unfold Hid IntKind.wrap
    simp [IntKind.bits, IntKind.signed]
    omega
  have hd0 : ((dd : Int) == 0) = false := by rw [beq_eq_false_iff_ne]; omega
  have HC : Hid (C = choD d) := hC
  rw [show ((d + 1 : Nat) : Int) = (dd : Int) by omega]
  obtain ⟨V, hV⟩ : ∃ V, V = w.alloc (.cells #[.int .i64 0, .int .i64 0, .string ⟨#[]⟩, .slice none 0 0, .slice none 0 0] 26) := ⟨_, rfl⟩
  have B0 : Below w.heap.size w V := by rw [hV]; exact (Below.refl _ _).alloc (Nat.le_refl _) _
  have c0 : V.heap[w.heap.size]? = some (.cells #[.int .i64 0, .int .i64 0, .string ⟨#[]⟩, .slice none 0 0, .slice none 0 0] 26 (0, 0)) := by rw [hV]; exact heap_alloc_new _ _
  have zV := (Array.getElem?_eq_some_iff.1 c0).1
  have HS : Hid (SrcSt V L a n k) := h.move (B0.block _ hL)
  have HR : Hid (ByteRow L V a n) := hr.up (by omega) B0
  have KV : Hid (∀ W, V.grownBy W (some L) → W.heap[w.heap.size]? = some (.cells #[.int .i64 0, .int .i64 0, .string ⟨#[]⟩, .slice none 0 0, .slice none 0 0] 26 (0, 0)) ∧ ByteRow L W a n ∧ w.grownBy W (some L)) := fun W hW =>
    ⟨(hW.block _ zV (by intro e; simp only [Option.some.injEq] at e; omega)).trans c0, row_keep HR.out hW, grown_trans ⟨B0.os, B0.tape, B0.output, B0.size, fun i hi _ => B0.block i hi⟩ hW⟩
  have HRR : Hid (∀ W, w.grownBy W (some L) → ByteRow L W a n) := fun W hW => row_keep hr hW
  clear h hr c0 B0 IH hdd hC hcho hk hd
  go_enter Tryz.func33, Tryz.ntmps33
  go_upto_region 1 with fail
  rw [← hV]
  clear hV
  go_wp2_with fail
  refine (next_pos 5 L n k a _ HS.out HR.out (by omega) hn (by omega) (by omega)).mono ?_
  rintro e w1 ⟨⟨u, hu, rfl⟩, st, hg⟩
  have HS2 : Hid (SrcSt w1 L a n (k + 1)) := st
  have HG2 : Hid (V.grownBy w1 (some L)) := hg
  have HR2 : Hid (ByteRow L w1 a n) := (KV.out _ hg).2.1
  have c2 := (KV.out _ HG2.out).1
  have C2 : Hid _ := c2
  have x2 := fun o => row_cell c2 o
  have f2 := fun o => row_frozen c2 o
  clear st hg HS HR c2
  by_cases u0 : u = 0
  · subst u0
    go_wp2_with fail
    exact leaf_end (d := d + 1) (k := k) C2.out HS2.out (by show k + 1 ≤ k + (4 + 3 * (1 + choD d)); omega) hL (KV.out _ HG2.out).2.2 head_null _ rfl rfl
  by_cases u1 : u = 1
  · subst u1
    clear x2 f2 u0
    go_wp2_with fail
    refine (next_pos 20 L n (k + 1) a _ HS2.out HR2.out (by omega) hn (by omega) (by omega)).mono ?_
    rintro e w3 ⟨⟨q, hq, rfl⟩, st, hg⟩
    have HS3 : Hid (SrcSt w3 L a n (k + 2)) := st
    have HG3 : Hid (V.grownBy w3 (some L)) := grown_trans HG2.out hg
    have c3 := (KV.out _ HG3.out).1
    have C3 : Hid _ := c3
    have x3 := fun o => row_cell c3 o
    have f3 := fun o => row_frozen c3 o
    have HH : Hid (headB ⟨1, (q : Int) - 5, ⟨#[]⟩, []⟩ .nil = true) := head_int (by omega)
    clear st hg HS2 HR2 HG2 C2 c3
    go_wp2_with fail
    exact leaf_end (d := d + 1) (k := k) C3.out HS3.out (by show k + 2 ≤ k + (4 + 3 * (1 + choD d)); omega) hL (KV.out _ HG3.out).2.2 HH.out _ rfl rfl
  by_cases u2 : u = 2
  · subst u2
    obtain ⟨U, hU⟩ : ∃ X, X = w1.alloc (.cells #[.string nodeW, .string queryW] 9) := ⟨_, rfl⟩
    have hL2 : L < w1.heap.size := HS2.out.lt
    have BU : Below w1.heap.size w1 U := by rw [hU]; exact (Below.refl _ _).alloc (Nat.le_refl _) _
    have HRW : Hid (KeRow (L + 1) U.heap.size U (some ⟨w1.heap.size, 0, none⟩) [nodeW, queryW]) := by rw [Hid, hU]; exact two_row _ _ _ _ hL2
    have HSU : Hid (SrcSt U L a n (k + 1)) := HS2.out.move (BU.block _ hL2)
    have HGU : Hid (V.grownBy U (some L)) := grown_trans HG2.out ⟨BU.os, BU.tape, BU.output, BU.size, fun i hi _ => BU.block i hi⟩
    have HRU : Hid (ByteRow L U a n) := (KV.out _ HGU.out).2.1
    clear x2 f2 u0 u1 BU HS2 HR2 HG2 C2
    go_wp2_with fail
    rw [show w1.alloc (.cells #[.string ⟨#[78, 111, 100, 101]⟩, .string ⟨#[81, 117, 101, 114, 121]⟩] 9) = U from hU.symm]
    refine (pick_any [nodeW, queryW] _ _ L n (k + 1) a U HSU.out HRU.out (by omega) hn (by simp) (by simp) HRW.out).mono ?_
    rintro e w3 ⟨⟨s, hs, rfl⟩, st, hg⟩
    have HS3 : Hid (SrcSt w3 L a n (k + 2)) := st
    have HG3 : Hid (V.grownBy w3 (some L)) := grown_trans HGU.out hg
    have c3 := (KV.out _ HG3.out).1
    have C3 : Hid _ := c3
    have x3 := fun o => row_cell c3 o
    have f3 := fun o => row_frozen c3 o
    have HH : Hid (headB ⟨2, 0, s, []⟩ .nil = true) := head_text hs
    clear st hg HSU HRU HGU HRW c3 hU
    go_wp2_with fail
    exact leaf_end (d := d + 1) (k := k) C3.out HS3.out (by show k + 2 ≤ k + (4 + 3 * (1 + choD d)); omega) hL (KV.out _ HG3.out).2.2 HH.out _ rfl rfl
  -- a list or an object
  have hu34 : ((u : Int) == 0) = false ∧ ((u : Int) == 1) = false ∧ ((u : Int) == 2) = false := by
    refine ⟨?_, ?_, ?_⟩ <;> (rw [beq_eq_false_iff_ne]; omega)
  obtain ⟨v0, v1, v2⟩ := hu34
  have HU : Hid (u = 3 ∨ u = 4) := by unfold Hid; omega
  obtain ⟨N1, hN1⟩ : ∃ x, x = w1.heap.size := ⟨_, rfl⟩
  obtain ⟨w2, hw2⟩ : ∃ x : World, x = w1.alloc (.cells #[.int .i64 (u : Int), .int .i64 0, .string ⟨#[]⟩, .slice none 0 0, .slice none 0 0] 26) := ⟨_, rfl⟩
  have z1 : w.heap.size < N1 := by have := HG2.out.size; omega
  have z2 : w2.heap.size = N1 + 1 := by rw [hw2, hN1]; simp
  have HP : Hid (w.heap.size ≤ w.heap.size ∧ L < w.heap.size ∧ w.heap.size < N1 ∧ N1 < N1 + 1) := ⟨Nat.le_refl _, hL, z1, by omega⟩
  have b2 : Below w1.heap.size w1 w2 := by rw [hw2]; exact (Below.refl _ _).alloc (Nat.le_refl _) _
  have I0 : Hid (OuAt w L w.heap.size N1 (N1 + 1) a n k d u 0 w2) := by
    refine ⟨[], .slice none 0 0, .slice none 0 0, [], [], ⟨?_, ?_, ?_, ?_, ⟨rfl, .inl ⟨rfl, rfl⟩⟩, ⟨rfl, .inl ⟨rfl, rfl⟩⟩, fun _ _ _ => trivial⟩, ⟨Nat.le_refl _, ?_⟩, fun x hx => by simp at hx, by omega, ⟨_, _, rfl⟩, ⟨_, _, rfl⟩⟩
    · exact grown_belowO (KV.out _ HG2.out).2.2 b2
    · exact (b2.block _ (by omega)).trans C2.out
    · rw [Nat.zero_mul, Nat.add_zero]; exact HS2.out.move (b2.block L HS2.out.lt)
    · rw [hw2, hN1]; exact heap_alloc_new _ _
    · rcases HU.out with e | e
      · exact .inl ⟨by omega, rfl⟩
      · exact .inr ⟨by omega, KinB.start, rfl⟩
  clear HS2 HR2 HG2 C2 x2 f2 u0 u1 u2 KV b2 zV
  go_upto_region 12 with fail
  rw [← hw2, ← hN1]
  clear hw2 hN1
  go_wp2_with fail
  go_loopw [7] (fun i w' => ∃ (m : Nat), i = .int .i64 m ∧ m ≤ 3 ∧ Hid (OuAt w L w.heap.size N1 (N1 + 1) a n k d u m w')) (fun i _ => 3 - (intOf i).toNat)
  case atStart => exact ⟨0, rfl, by omega, I0⟩
  case round =>
    obtain ⟨wo, rfl⟩ : ∃ x, x = wr := ⟨_, rfl⟩
    obtain ⟨m, rfl, hm3, HO⟩ := hrel
    obtain ⟨ks, kv, v, vs, pre, i1, i2, i3, i4, ⟨ka, kc, rfl⟩, ⟨va, vc, rfl⟩⟩ := HO.out
    have E1 : Hid _ := i1
    have E2 : Hid (KindIn u m ks pre) := i2
    have E3 : Hid (allD d pre) := i3
    clear i1 i2 i3 HO I0
    by_cases hm : 3 ≤ m
    · obtain rfl : m = 3 := by omega
      have xB := fun o => row_cell E1.out.cell o
      have xR := fun o => row_cell E1.out.res o
      have fR := fun o => row_frozen E1.out.res o
      go_wp2_with fail
      exact group_end HP.out E1.out E2.out E3.out _ rfl rfl
    have hmI : (m : Int) < 3 := by omega
    have HRo : Hid (ByteRow L wo a n) := HRR.out _ E1.out.grown
    go_wp2_with fail
    have HM : Hid (m * (1 + choD d) ≤ 2 * (1 + choD d)) := Nat.mul_le_mul_right _ (by omega)
    have HZ : Hid (k + 1 + m * (1 + choD d) + 1 + choD d ≤ 100000) := by have h1 := HM.out; have h2 := HC.out; unfold Hid; omega
    refine (chance_any 2 L n _ a _ E1.out.src HRo.out (by have h1 := HZ.out; omega) hn (by omega) (by omega)).mono ?_
    rintro e w9 ⟨⟨bb, rfl⟩, s9, g9⟩
    have F1 : Hid (OuIn w L w.heap.size N1 (N1 + 1) a n (k + 1 + m * (1 + choD d) + 1) u ks (.slice ka ks.length kc) (.slice va pre.length vc) vs pre w9) := E1.out.move HP.out g9 s9
    have z9 : N1 + 1 ≤ w9.heap.size := by have := g9.size; omega
    clear s9 g9 E1 HRo
    cases bb
    case false =>
      have HF : Hid (OuAt w L w.heap.size N1 (N1 + 1) a n k d u (m + 1) w9) := by
        refine ⟨ks, .slice ka ks.length kc, .slice va pre.length vc, vs, pre, ?_, ⟨by have := E2.out.1; omega, ?_⟩, E3.out, z9, ⟨_, _, rfl⟩, ⟨_, _, rfl⟩⟩
        · have h1 := F1.out
          exact ⟨h1.grown, h1.res, h1.src.more (by rw [Nat.succ_mul]; omega), h1.cell, h1.keys, h1.own, h1.kids⟩
        · rcases E2.out.2 with h | ⟨h1, h2, h3⟩
          · exact .inl h
          · exact .inr ⟨h1, h2.skip, h3⟩
      go_wp2_with fail
      exact ⟨⟨m + 1, by first | rfl | go_num, by omega, HF⟩, by simp [intOf]; omega⟩
    case true =>
    rcases HU.out with hu3 | hu4
    · have HU3 : Hid (u = 3) := hu3
      have v4 : ((u : Int) == 4) = false := by rw [beq_eq_false_iff_ne]; omega
      have HKS : Hid (ks = []) := by
        rcases E2.out.2 with ⟨_, h⟩ | ⟨h, _⟩
        · exact h
        · exact absurd h (by omega)
      clear hu3
      go_upto_region 18 with fail
      refine region_rel5 (n := 9) (k := 1) (by omega) (by kernel_rfl) (by kernel_rfl) (by kernel_rfl) (fun y => ⟨#[.pointer (some ⟨L, 0, none⟩), .int .i64 dd, undef, undef, .pointer (some ⟨w.heap.size, 0, none⟩), .int .i64 u, .pointer (some ⟨N1, 0, none⟩), .int .i64 m, .pointer (some ⟨L, 0, none⟩), .int .i64 u, .int .i64 dd, .bool false, undef, undef, .int .i64 u, .bool false, .bool false, undef, .bool false, .bool false, undef, undef, undef, undef, .bool false, .bool false, undef, undef, undef, undef, .int .i64 u, .agg #[.int .i64 u, .int .i64 0, .string ⟨#[]⟩, .slice none 0 0, .slice none 0 0], .int .i64 m, .bool true, u34, u35, .pointer (some ⟨L, 0, none⟩), .bool true, .int .i64 u, .bool false, u40, u41, u42, u43, u44, u45, u46, u47, u48, y 49, y 50, y 51, y 52, y 53, y 54, y 55, y 56, y 57, undef], []⟩) (fun n => match n with | 49 => u49 | 50 => u50 | 51 => u51 | 52 => u52 | 53 => u53 | 54 => u54 | 55 => u55 | 56 => u56 | 57 => u57 | _ => undef) (fun i => 49 + i) (fun i j _ _ h => by omega)
        (ItPv L N1 w9.heap.size d dd (.slice va pre.length vc)) (ItJ w L w.heap.size N1 (N1 + 1) a n (k + 1 + m * (1 + choD d) + 1) d u ks (.slice ka ks.length kc) (.slice va pre.length vc) vs pre w9.heap.size) (ItJ.start F1.out) ?step ?last
      case step =>
        intro D y W i hi hLs hLi hj hdep
        have hzW := hj.size
        have hcell : ∃ q, OuIn w L w.heap.size N1 (N1 + 1) a n q u ks (.slice ka ks.length kc) (.slice va pre.length vc) vs pre W ∨ W.heap[N1]? = some (.cells #[.int .i64 u, .int .i64 0, .string ⟨#[]⟩, .slice ka ks.length kc, .slice va pre.length vc] 26 (0, 0)) := by
          cases h5 : D.getD 5 false
          · exact ⟨_, .inl (hj.a0 h5).2⟩
          · cases h7 : D.getD 7 false
            · exact ⟨_, .inl (hj.a1 h5 h7)⟩
            · obtain ⟨_, _, _, _, _, hm⟩ := hj.a2 h7
              exact ⟨0, .inr hm.cell⟩
        obtain ⟨_, hcell⟩ := hcell
        have hcB : W.heap[N1]? = some (.cells #[.int .i64 u, .int .i64 0, .string ⟨#[]⟩, .slice ka ks.length kc, .slice va pre.length vc] 26 (0, 0)) := by
          rcases hcell with h | h
          · exact h.cell
          · exact h
        have hcase : i = 0 ∨ i = 1 ∨ i = 2 ∨ i = 3 ∨ i = 4 ∨ i = 5 ∨ i = 6 ∨ i = 7 ∨ i = 8 := by omega
        clear hi hcell
        rcases hcase with rfl | rfl | rfl | rfl | rfl | rfl | rfl | rfl | rfl
        · clear hdep
          refine wpOp_step rfl (fun K hK => ?_)
          go_simp
          exact hK _ _ ⟨.pointer (some ⟨N1, 4, none⟩), by simp [upd], fun _ _ hx => hx, rfl, hj.step (Below.refl _ _) (by omega) (by omega) (by omega)⟩
        · have d0 : y 49 = .pointer (some ⟨N1, 4, none⟩) := (hdep _ rfl ⟨0, .data⟩ (by simp) rfl).2
          have xB := fun o => row_cell hcB o
          clear hdep
          refine wpOp_step rfl (fun K hK => ?_)
          go_simp
          exact hK _ _ ⟨.slice va pre.length vc, by simp [upd, d0], fun _ _ hx => hx, rfl, hj.step (Below.refl _ _) (by omega) (by omega) (by omega)⟩
        · clear hdep
          refine wpOp_step rfl (fun K hK => ?_)
          go_simp
          exact hK _ _ ⟨.pointer (some ⟨L, 0, none⟩), by simp [upd], fun _ _ hx => hx, rfl, hj.step (Below.refl _ _) (by omega) (by omega) (by omega)⟩
        · clear hdep
          refine wpOp_step rfl (fun K hK => ?_)
          go_simp
          exact hK _ _ ⟨.int .i64 dd, by simp [upd], fun _ _ hx => hx, rfl, hj.step (Below.refl _ _) (by omega) (by omega) (by omega)⟩
        · have d3 : y 52 = .int .i64 dd := (hdep _ rfl ⟨3, .data⟩ (by simp) rfl).2
          clear hdep
          refine wpOp_step rfl (fun K hK => ?_)
          go_simp
          exact hK _ _ ⟨.int .i64 ((dd : Int) - 1), by simp [upd, d3, HWR.out], fun _ _ hx => hx, rfl, hj.step (Below.refl _ _) (by omega) (by omega) (by omega)⟩
        · have d2 : y 51 = .pointer (some ⟨L, 0, none⟩) := (hdep _ rfl ⟨2, .data⟩ (by simp) rfl).2
          have d4 : y 53 = .int .i64 ((dd : Int) - 1) := (hdep _ rfl ⟨4, .data⟩ (by simp) rfl).2
          have l5 : D.getD 5 false = false := by
            cases h8 : D.getD 5 false
            · rfl
            · rw [getD_both (by omega) h8] at hLi; cases hLi
          have HSW : Hid _ := (hj.a0 l5).2.src
          have HRW : Hid _ := HRR.out _ (hj.a0 l5).2.grown
          have HJ : Hid _ := hj
          clear hdep hcB
          refine wpOp_step rfl (fun K hK => ?_)
          go_simp
          rw [show (dd : Int) - 1 = (d : Int) by have := HD.out; omega]
          refine (HI.out L n _ a W HSW.out HRW.out (by have h1 := HZ.out; omega) hn).mono ?_
          rintro e w8 ⟨⟨hh, sub, b1, b2, f1, f2, rfl, hf, r1, r2, hdr⟩, s8, g8⟩
          exact hK _ _ ⟨.agg #[.int .i64 hh.k, .int .i64 hh.n, .string hh.t, .slice b1 hh.keys.length f1, .slice b2 sub.len f2], by simp [upd, d2, d4]; have := HD.out; omega, fun _ _ hx => ItPv.up g8.size (fun g h1 h2 => g8.block g h2 (by simp; omega)) hx, ⟨hh, sub, b1, b2, f1, f2, rfl, hf, hdr, KeRow.wide r1 hzW (Nat.le_refl _), OuRow.wide r2 hzW (Nat.le_refl _)⟩, ItJ.draw HJ.out HP.out (by omega) l5 g8 s8⟩
        · obtain ⟨hh, sub, b1, b2, f1, f2, d5, hf5, hd5, r5, s5⟩ : ∃ (h : Oh) (sub : Ous) (b1 b2 : Option Addr) (f1 f2 : Nat), y 54 = .agg #[.int .i64 h.k, .int .i64 h.n, .string h.t, .slice b1 h.keys.length f1, .slice b2 sub.len f2] ∧ h.keys.length ≤ f1 ∧ DrawnB d h sub ∧ KeRow w9.heap.size W.heap.size W b1 h.keys ∧ OuRow w9.heap.size W.heap.size W b2 sub := (hdep _ rfl ⟨5, .data⟩ (by simp) rfl).2
          have l5 := (hdep _ rfl ⟨5, .data⟩ (by simp) rfl).1
          have QQ : Hid (True ∧ DrawnB d hh sub ∧ KeRow w9.heap.size W.heap.size W b1 hh.keys ∧ OuRow w9.heap.size W.heap.size W b2 sub) := ⟨trivial, hd5, r5, s5⟩
          clear hdep hcB hd5 r5 s5
          refine wpOp_step rfl (fun K hK => ?_)
          go_simp
          exact hK _ _ ⟨.slice (some ⟨W.heap.size, 0, none⟩) 1 1, by simp [upd, d5], fun _ _ hx => ItPv.up (by simp) (fun g _ h2 => Below.heap_alloc _ _ _ h2) hx, ⟨W.heap.size, hh, sub, b1, b2, f1, f2, rfl, hzW, heap_alloc_new _ _, hf5, QQ.out.2.1, KeRow.wide (KeRow.keep QQ.out.2.2.1 (fun g _ h2 => Below.heap_alloc _ _ _ h2)) (Nat.le_refl _) (by simp), OuRow.wide (OuRow.keep QQ.out.2.2.2 (fun g _ h2 => Below.heap_alloc _ _ _ h2)) (Nat.le_refl _) (by simp)⟩, hj.step ((Below.refl _ _).alloc (Nat.le_refl _) _) (by omega) (fun _ => l5) (by omega)⟩
        · have d1 : y 50 = .slice va pre.length vc := (hdep _ rfl ⟨1, .data⟩ (by simp) rfl).2
          obtain ⟨g6, hh, sub, b1, b2, f1, f2, d6, hg6, hc6, hf6, hd6, r6, s6⟩ : ∃ (g : Nat) (h : Oh) (sub : Ous) (b1 b2 : Option Addr) (f1 f2 : Nat), y 55 = .slice (some ⟨g, 0, none⟩) 1 1 ∧ w9.heap.size ≤ g ∧ W.heap[g]? = some (.cells #[.int .i64 h.k, .int .i64 h.n, .string h.t, .slice b1 h.keys.length f1, .slice b2 sub.len f2] 26 (0, 0)) ∧ h.keys.length ≤ f1 ∧ DrawnB d h sub ∧ KeRow w9.heap.size W.heap.size W b1 h.keys ∧ OuRow w9.heap.size W.heap.size W b2 sub := (hdep _ rfl ⟨6, .data⟩ (by simp) rfl).2
          have l5 := hj.c6 (hdep _ rfl ⟨6, .data⟩ (by simp) rfl).1
          have l7 : D.getD 7 false = false := by
            cases h8 : D.getD 7 false
            · rfl
            · rw [getD_both (by omega) h8] at hLi; cases hLi
          have q0 := hj.a1 l5 l7
          obtain ⟨g, cap, W8, hrun, q1, q2, q3, q4⟩ := app_out pre.length _ _ _ _ _ _ vs _ g6 W q0.own hc6 five_one' (by have := E2.out.1; omega) (by omega)
          have HJ8 : Hid _ := ItJ.put hj HP.out (by omega) (by omega) l5 l7 hf6 hd6 r6 s6 q1 q2 q3
          have HQ2 : Hid _ := q2
          have HVN : Hid _ := hj.vN
          clear hdep q1 q2 q3 r6 s6 hc6 q0 hcB
          refine wpOp_step rfl (fun K hK => ?_)
          refine wp_append_run (.tmp 50) (.tmp 55) _ rfl _ _ _ _ d1 d6 hrun ?_
          exact hK _ _ ⟨_, rfl, fun _ _ hx => ItPv.up HQ2.out.size (fun g a1 h2 => HQ2.out.block g h2 (fun e => by have := HVN.out _ e.symm; omega)) hx, trivial, HJ8.out⟩
        · clear hdep
          refine wpOp_step rfl (fun K hK => ?_)
          go_simp
          exact hK _ _ ⟨.pointer (some ⟨N1, 4, none⟩), by simp [upd], fun _ _ hx => hx, rfl, hj.step (Below.refl _ _) (by omega) (by omega) (by omega)⟩
      case last =>
        intro D y W hLs hD hj hp
        have d8 : y 57 = .pointer (some ⟨N1, 4, none⟩) := hp 8 (by omega)
        obtain ⟨⟨va', vc', e7⟩, hh, sub, vs', hdr, hM⟩ := hj.a2 (hD 7 (by omega))
        rw [e7] at hM
        have xB := fun o => row_cell hM.cell o
        have fB := fun o => row_frozen hM.cell o
        obtain ⟨W2, hW2⟩ : ∃ x : World, x = W.setCell ⟨N1, 4, none⟩ (.slice va' (pre.length + 1) vc') := ⟨_, rfl⟩
        have HF : Hid (OuAt w L w.heap.size N1 (N1 + 1) a n k d u (m + 1) W2) := by
          have hl : (pre ++ [(hh, sub)]).length = pre.length + 1 := by simp
          have h9 := hM.store HP.out
          rw [← hW2] at h9
          refine ⟨ks, .slice ka ks.length kc, .slice va' (pre.length + 1) vc', vs', pre ++ [(hh, sub)], ?_, ⟨by rw [hl]; have := E2.out.1; omega, .inl ⟨by have := HU3.out; omega, HKS.out⟩⟩, ?_, by rw [hW2]; simp; have := hj.size; omega, ⟨_, _, rfl⟩, ⟨_, _, by rw [hl]⟩⟩
          · have e : k + 1 + m * (1 + choD d) + 1 + choD d = k + 1 + (m + 1) * (1 + choD d) := by rw [Nat.succ_mul]; omega
            rw [← e]; exact h9
          · intro x hx
            rcases List.mem_append.1 hx with hx | hx
            · exact E3.out x hx
            · rw [List.mem_singleton.1 hx]; exact hdr
        have HW2 : Hid _ := hW2
        clear hp hj hM hW2 hdr
        unfold wpTail
        refine wpOp_step rfl (fun K hK => ?_)
        go_simp
        refine hK _ _ ?_
        clear hK
        unfold wpTail
        rw [← HW2.out]
        go_wp2_with fail
        exact ⟨⟨m + 1, by first | rfl | go_num, by omega, HF⟩, by simp [intOf]; omega⟩
    · have HU4 : Hid (u = 4) := hu4
      have v4 : ((u : Int) == 4) = true := by rw [beq_iff_eq]; omega
      have HKL : Hid (ks.length ≤ 1048576) := by
        rcases E2.out.2 with ⟨h, _⟩ | ⟨_, _, h⟩
        · exact absurd h (by omega)
        · have := E2.out.1; unfold Hid; omega
      clear hu4
      go_upto_region 17 with fail
      refine region_rel5 (n := 9) (k := 1) (by omega) (by kernel_rfl) (by kernel_rfl) (by kernel_rfl) (fun y => ⟨#[.pointer (some ⟨L, 0, none⟩), .int .i64 dd, undef, undef, .pointer (some ⟨w.heap.size, 0, none⟩), .int .i64 u, .pointer (some ⟨N1, 0, none⟩), .int .i64 m, .pointer (some ⟨L, 0, none⟩), .int .i64 u, .int .i64 dd, .bool false, undef, undef, .int .i64 u, .bool false, .bool false, undef, .bool false, .bool false, undef, undef, undef, undef, .bool false, .bool false, undef, undef, undef, undef, .int .i64 u, .agg #[.int .i64 u, .int .i64 0, .string ⟨#[]⟩, .slice none 0 0, .slice none 0 0], .int .i64 m, .bool true, u34, u35, .pointer (some ⟨L, 0, none⟩), .bool true, .int .i64 u, .bool true, y 40, y 41, y 42, y 43, y 44, y 45, y 46, y 47, y 48, u49, u50, u51, u52, u53, u54, u55, u56, u57, undef], []⟩) (fun n => match n with | 40 => u40 | 41 => u41 | 42 => u42 | 43 => u43 | 44 => u44 | 45 => u45 | 46 => u46 | 47 => u47 | 48 => u48 | _ => undef) (fun i => 40 + i) (fun i j _ _ h => by omega)
        (KyPv N1 w9.heap.size m (.slice ka ks.length kc) (keyAtD m)) (KyJ w L w.heap.size N1 (N1 + 1) a n (k + 1 + m * (1 + choD d) + 1) u ks (keyAtD m) (.slice ka ks.length kc) (.slice va pre.length vc) vs pre w9.heap.size) (KyJ.start F1.out) ?step ?last
      case step =>
        intro D y W i hi hLs hLi hj hdep
        have hzW := hj.size
        have hcase : i = 0 ∨ i = 1 ∨ i = 2 ∨ i = 3 ∨ i = 4 ∨ i = 5 ∨ i = 6 ∨ i = 7 ∨ i = 8 := by omega
        clear hi
        rcases hcase with rfl | rfl | rfl | rfl | rfl | rfl | rfl | rfl | rfl
        · clear hdep
          refine wpOp_step rfl (fun K hK => ?_)
          go_simp
          exact hK _ _ ⟨.pointer (some ⟨N1, 3, none⟩), by simp [upd], fun _ _ hx => hx, rfl, hj.step (Below.refl _ _) (by omega) (by omega)⟩
        · have d0 : y 40 = .pointer (some ⟨N1, 3, none⟩) := (hdep _ rfl ⟨0, .data⟩ (by simp) rfl).2
          have xB : ∀ o, W.cell? ⟨N1, o, none⟩ = (#[.int .i64 u, .int .i64 0, .string ⟨#[]⟩, .slice ka ks.length kc, .slice va pre.length vc] : Array Value)[o]? := fun o => by
            cases h7 : D.getD 7 false
            · exact row_cell (hj.ahead h7).1.cell o
            · exact row_cell (hj.behind h7).2.cell o
          clear hdep
          refine wpOp_step rfl (fun K hK => ?_)
          go_simp
          exact hK _ _ ⟨.slice ka ks.length kc, by simp [upd, d0], fun _ _ hx => hx, rfl, hj.step (Below.refl _ _) (by omega) (by omega)⟩
        · clear hdep
          refine wpOp_step rfl (fun K hK => ?_)
          go_simp
          exact hK _ _ ⟨.slice (some ⟨W.heap.size, 0, none⟩) 3 3, by simp [upd], fun _ _ hx => KyPv.up (fun g _ h2 => Below.heap_alloc _ _ _ h2) hx, ⟨W.heap.size, rfl, hzW, heap_alloc_new _ _⟩, hj.step ((Below.refl _ _).alloc (Nat.le_refl _) _) (by omega) (by omega)⟩
        · clear hdep
          refine wpOp_step rfl (fun K hK => ?_)
          go_simp
          exact hK _ _ ⟨.int .i64 m, by simp [upd], fun _ _ hx => hx, rfl, hj.step (Below.refl _ _) (by omega) (by omega)⟩
        · obtain ⟨g2, d2, hg2, hc2⟩ : ∃ g, y 42 = .slice (some ⟨g, 0, none⟩) 3 3 ∧ w9.heap.size ≤ g ∧ W.heap[g]? = some (.cells #[.string lB, .string lA, .string lC] 9 (0, 0)) := (hdep _ rfl ⟨2, .data⟩ (by simp) rfl).2
          have d3 : y 43 = .int .i64 m := (hdep _ rfl ⟨3, .data⟩ (by simp) rfl).2
          have HC2 : Hid _ := hc2
          clear hdep hc2
          refine wpOp_step rfl (fun K hK => ?_)
          go_simp
          exact hK _ _ ⟨.pointer (some ⟨g2, m, none⟩), by simp [upd, d2, d3], fun _ _ hx => hx, ⟨g2, rfl, hg2, HC2.out⟩, hj.step (Below.refl _ _) (by omega) (by omega)⟩
        · obtain ⟨g4, d4, hg4, hc4⟩ : ∃ g, y 44 = .pointer (some ⟨g, m, none⟩) ∧ w9.heap.size ≤ g ∧ W.heap[g]? = some (.cells #[.string lB, .string lA, .string lC] 9 (0, 0)) := (hdep _ rfl ⟨4, .data⟩ (by simp) rfl).2
          have x4 := key_at (i := m) (by omega) hc4
          clear hdep hc4
          refine wpOp_step rfl (fun K hK => ?_)
          go_simp
          exact hK _ _ ⟨.string (keyAtD m), by simp [upd, d4], fun _ _ hx => hx, rfl, hj.step (Below.refl _ _) (by omega) (by omega)⟩
        · have d5 : y 45 = .string (keyAtD m) := (hdep _ rfl ⟨5, .data⟩ (by simp) rfl).2
          clear hdep
          refine wpOp_step rfl (fun K hK => ?_)
          go_simp
          exact hK _ _ ⟨.slice (some ⟨W.heap.size, 0, none⟩) 1 1, by simp [upd, d5], fun _ _ hx => KyPv.up (fun g _ h2 => Below.heap_alloc _ _ _ h2) hx, ⟨W.heap.size, rfl, hzW, heap_alloc_new _ _⟩, hj.step ((Below.refl _ _).alloc (Nat.le_refl _) _) (by omega) (by omega)⟩
        · have d1 : y 41 = .slice ka ks.length kc := (hdep _ rfl ⟨1, .data⟩ (by simp) rfl).2
          obtain ⟨g6, d6, hg6, hc6⟩ : ∃ g, y 46 = .slice (some ⟨g, 0, none⟩) 1 1 ∧ w9.heap.size ≤ g ∧ W.heap[g]? = some (.cells #[.string (keyAtD m)] 9 (0, 0)) := (hdep _ rfl ⟨6, .data⟩ (by simp) rfl).2
          have l7 : D.getD 7 false = false := by
            cases h8 : D.getD 7 false
            · rfl
            · rw [getD_both (by omega) h8] at hLi; cases hLi
          obtain ⟨q0, qN⟩ := hj.ahead l7
          obtain ⟨g, cap, W8, hrun, q1, q2, q3, q4⟩ := app_str ks (keyAtD m) _ _ g6 W q0.keys hc6 HKL.out (by omega)
          have HJ8 : Hid _ := KyJ.put hj HP.out (by omega) l7 q2 q1 q3
          have HQ2 : Hid _ := q2
          clear hdep q1 q2 q3 hc6 q0
          refine wpOp_step rfl (fun K hK => ?_)
          refine wp_append_run (.tmp 41) (.tmp 46) _ rfl _ _ _ _ d1 d6 hrun ?_
          exact hK _ _ ⟨_, rfl, fun _ _ hx => KyPv.up (fun g a1 h2 => HQ2.out.block g h2 (fun e => by have := qN _ e.symm; omega)) hx, trivial, HJ8.out⟩
        · clear hdep
          refine wpOp_step rfl (fun K hK => ?_)
          go_simp
          exact hK _ _ ⟨.pointer (some ⟨N1, 3, none⟩), by simp [upd], fun _ _ hx => hx, rfl, hj.step (Below.refl _ _) (by omega) (by omega)⟩
      case last =>
        intro D y W hLs hD hj hp
        have d8 : y 48 = .pointer (some ⟨N1, 3, none⟩) := hp 8 (by omega)
        obtain ⟨⟨ka', kc', e7⟩, hM⟩ := hj.behind (hD 7 (by omega))
        rw [e7] at hM
        have hlen : (ks ++ [keyAtD m]).length = ks.length + 1 := by simp
        have xB := fun o => row_cell hM.cell o
        have fB := fun o => row_frozen hM.cell o
        obtain ⟨w9', hw9'⟩ : ∃ x : World, x = W.setCell ⟨N1, 3, none⟩ (.slice ka' (ks.length + 1) kc') := ⟨_, rfl⟩
        have G1 : Hid (OuIn w L w.heap.size N1 (N1 + 1) a n (k + 1 + m * (1 + choD d) + 1) u (ks ++ [keyAtD m]) (.slice ka' (ks ++ [keyAtD m]).length kc') (.slice va pre.length vc) vs pre w9') := by
          rw [Hid, hw9', hlen]; exact hM.store HP.out
        have z9' : N1 + 1 ≤ w9'.heap.size := by rw [hw9']; simp; have := hj.size; omega
        have HW9 : Hid _ := hw9'
        have HKN : Hid (KinB (m + 1) (ks ++ [keyAtD m]) ∧ (ks ++ [keyAtD m]).length = pre.length + 1) := by
          obtain ⟨_, ⟨h3, _⟩ | ⟨_, h4, h5⟩⟩ := E2.out
          · exact absurd h3 (by have := HU4.out; omega)
          · exact ⟨h4.put (by omega), by rw [hlen, h5]⟩
        clear hp hj hM hw9'
        unfold wpTail
        refine wpOp_step rfl (fun K hK => ?_)
        go_simp
        refine hK _ _ ?_
        clear hK xB fB
        unfold wpTail
        rw [← HW9.out]
        clear HW9
        go_upto_region 18 with fail
        refine region_rel5 (n := 9) (k := 1) (by omega) (by kernel_rfl) (by kernel_rfl) (by kernel_rfl) (fun y' => ⟨#[.pointer (some ⟨L, 0, none⟩), .int .i64 dd, undef, undef, .pointer (some ⟨w.heap.size, 0, none⟩), .int .i64 u, .pointer (some ⟨N1, 0, none⟩), .int .i64 m, .pointer (some ⟨L, 0, none⟩), .int .i64 u, .int .i64 dd, .bool false, undef, undef, .int .i64 u, .bool false, .bool false, undef, .bool false, .bool false, undef, undef, undef, undef, .bool false, .bool false, undef, undef, undef, undef, .int .i64 u, .agg #[.int .i64 u, .int .i64 0, .string ⟨#[]⟩, .slice none 0 0, .slice none 0 0], .int .i64 m, .bool true, u34, u35, .pointer (some ⟨L, 0, none⟩), .bool true, .int .i64 u, .bool true, y 40, y 41, y 42, y 43, y 44, y 45, y 46, .slice ka' (ks.length + 1) kc', .pointer (some ⟨N1, 3, none⟩), y' 49, y' 50, y' 51, y' 52, y' 53, y' 54, y' 55, y' 56, y' 57, undef], []⟩) (fun n => match n with | 49 => u49 | 50 => u50 | 51 => u51 | 52 => u52 | 53 => u53 | 54 => u54 | 55 => u55 | 56 => u56 | 57 => u57 | _ => undef) (fun i => 49 + i) (fun i j _ _ h => by omega)
          (ItPv L N1 w9'.heap.size d dd (.slice va pre.length vc)) (ItJ w L w.heap.size N1 (N1 + 1) a n (k + 1 + m * (1 + choD d) + 1) d u (ks ++ [keyAtD m]) (.slice ka' (ks ++ [keyAtD m]).length kc') (.slice va pre.length vc) vs pre w9'.heap.size) (ItJ.start G1.out) ?step ?last
        case step =>
          intro D y' W i hi hLs hLi hj hdep
          have hzW := hj.size
          have hcell : ∃ q, OuIn w L w.heap.size N1 (N1 + 1) a n q u (ks ++ [keyAtD m]) (.slice ka' (ks ++ [keyAtD m]).length kc') (.slice va pre.length vc) vs pre W ∨ W.heap[N1]? = some (.cells #[.int .i64 u, .int .i64 0, .string ⟨#[]⟩, .slice ka' (ks ++ [keyAtD m]).length kc', .slice va pre.length vc] 26 (0, 0)) := by
            cases h5 : D.getD 5 false
            · exact ⟨_, .inl (hj.a0 h5).2⟩
            · cases h7 : D.getD 7 false
              · exact ⟨_, .inl (hj.a1 h5 h7)⟩
              · obtain ⟨_, _, _, _, _, hm⟩ := hj.a2 h7
                exact ⟨0, .inr hm.cell⟩
          obtain ⟨_, hcell⟩ := hcell
          have hcB : W.heap[N1]? = some (.cells #[.int .i64 u, .int .i64 0, .string ⟨#[]⟩, .slice ka' (ks ++ [keyAtD m]).length kc', .slice va pre.length vc] 26 (0, 0)) := by
            rcases hcell with h | h
            · exact h.cell
            · exact h
          have hcase : i = 0 ∨ i = 1 ∨ i = 2 ∨ i = 3 ∨ i = 4 ∨ i = 5 ∨ i = 6 ∨ i = 7 ∨ i = 8 := by omega
          clear hi hcell
          rcases hcase with rfl | rfl | rfl | rfl | rfl | rfl | rfl | rfl | rfl
          · clear hdep
            refine wpOp_step rfl (fun K hK => ?_)
            go_simp
            exact hK _ _ ⟨.pointer (some ⟨N1, 4, none⟩), by simp [upd], fun _ _ hx => hx, rfl, hj.step (Below.refl _ _) (by omega) (by omega) (by omega)⟩
          · have d0 : y' 49 = .pointer (some ⟨N1, 4, none⟩) := (hdep _ rfl ⟨0, .data⟩ (by simp) rfl).2
            have xB := fun o => row_cell hcB o
            clear hdep
            refine wpOp_step rfl (fun K hK => ?_)
            go_simp
            exact hK _ _ ⟨.slice va pre.length vc, by simp [upd, d0], fun _ _ hx => hx, rfl, hj.step (Below.refl _ _) (by omega) (by omega) (by omega)⟩
          · clear hdep
            refine wpOp_step rfl (fun K hK => ?_)
            go_simp
            exact hK _ _ ⟨.pointer (some ⟨L, 0, none⟩), by simp [upd], fun _ _ hx => hx, rfl, hj.step (Below.refl _ _) (by omega) (by omega) (by omega)⟩
          · clear hdep
            refine wpOp_step rfl (fun K hK => ?_)
            go_simp
            exact hK _ _ ⟨.int .i64 dd, by simp [upd], fun _ _ hx => hx, rfl, hj.step (Below.refl _ _) (by omega) (by omega) (by omega)⟩
          · have d3 : y' 52 = .int .i64 dd := (hdep _ rfl ⟨3, .data⟩ (by simp) rfl).2
            clear hdep
            refine wpOp_step rfl (fun K hK => ?_)
            go_simp
            exact hK _ _ ⟨.int .i64 ((dd : Int) - 1), by simp [upd, d3, HWR.out], fun _ _ hx => hx, rfl, hj.step (Below.refl _ _) (by omega) (by omega) (by omega)⟩
          · have d2 : y' 51 = .pointer (some ⟨L, 0, none⟩) := (hdep _ rfl ⟨2, .data⟩ (by simp) rfl).2
            have d4 : y' 53 = .int .i64 ((dd : Int) - 1) := (hdep _ rfl ⟨4, .data⟩ (by simp) rfl).2
            have l5 : D.getD 5 false = false := by
              cases h8 : D.getD 5 false
              · rfl
              · rw [getD_both (by omega) h8] at hLi; cases hLi
            have HSW : Hid _ := (hj.a0 l5).2.src
            have HRW : Hid _ := HRR.out _ (hj.a0 l5).2.grown
            have HJ : Hid _ := hj
            clear hdep hcB
            refine wpOp_step rfl (fun K hK => ?_)
            go_simp
            rw [show (dd : Int) - 1 = (d : Int) by have := HD.out; omega]
            refine (HI.out L n _ a W HSW.out HRW.out (by have h1 := HZ.out; omega) hn).mono ?_
            rintro e w8 ⟨⟨hh, sub, b1, b2, f1, f2, rfl, hf, r1, r2, hdr⟩, s8, g8⟩
            exact hK _ _ ⟨.agg #[.int .i64 hh.k, .int .i64 hh.n, .string hh.t, .slice b1 hh.keys.length f1, .slice b2 sub.len f2], by simp [upd, d2, d4]; have := HD.out; omega, fun _ _ hx => ItPv.up g8.size (fun g h1 h2 => g8.block g h2 (by simp; omega)) hx, ⟨hh, sub, b1, b2, f1, f2, rfl, hf, hdr, KeRow.wide r1 hzW (Nat.le_refl _), OuRow.wide r2 hzW (Nat.le_refl _)⟩, ItJ.draw HJ.out HP.out (by omega) l5 g8 s8⟩
          · obtain ⟨hh, sub, b1, b2, f1, f2, d5, hf5, hd5, r5, s5⟩ : ∃ (h : Oh) (sub : Ous) (b1 b2 : Option Addr) (f1 f2 : Nat), y' 54 = .agg #[.int .i64 h.k, .int .i64 h.n, .string h.t, .slice b1 h.keys.length f1, .slice b2 sub.len f2] ∧ h.keys.length ≤ f1 ∧ DrawnB d h sub ∧ KeRow w9'.heap.size W.heap.size W b1 h.keys ∧ OuRow w9'.heap.size W.heap.size W b2 sub := (hdep _ rfl ⟨5, .data⟩ (by simp) rfl).2
            have l5 := (hdep _ rfl ⟨5, .data⟩ (by simp) rfl).1
            have QQ : Hid (True ∧ DrawnB d hh sub ∧ KeRow w9'.heap.size W.heap.size W b1 hh.keys ∧ OuRow w9'.heap.size W.heap.size W b2 sub) := ⟨trivial, hd5, r5, s5⟩
            clear hdep hcB hd5 r5 s5
            refine wpOp_step rfl (fun K hK => ?_)
            go_simp
            exact hK _ _ ⟨.slice (some ⟨W.heap.size, 0, none⟩) 1 1, by simp [upd, d5], fun _ _ hx => ItPv.up (by simp) (fun g _ h2 => Below.heap_alloc _ _ _ h2) hx, ⟨W.heap.size, hh, sub, b1, b2, f1, f2, rfl, hzW, heap_alloc_new _ _, hf5, QQ.out.2.1, KeRow.wide (KeRow.keep QQ.out.2.2.1 (fun g _ h2 => Below.heap_alloc _ _ _ h2)) (Nat.le_refl _) (by simp), OuRow.wide (OuRow.keep QQ.out.2.2.2 (fun g _ h2 => Below.heap_alloc _ _ _ h2)) (Nat.le_refl _) (by simp)⟩, hj.step ((Below.refl _ _).alloc (Nat.le_refl _) _) (by omega) (fun _ => l5) (by omega)⟩
          · have d1 : y' 50 = .slice va pre.length vc := (hdep _ rfl ⟨1, .data⟩ (by simp) rfl).2
            obtain ⟨g6, hh, sub, b1, b2, f1, f2, d6, hg6, hc6, hf6, hd6, r6, s6⟩ : ∃ (g : Nat) (h : Oh) (sub : Ous) (b1 b2 : Option Addr) (f1 f2 : Nat), y' 55 = .slice (some ⟨g, 0, none⟩) 1 1 ∧ w9'.heap.size ≤ g ∧ W.heap[g]? = some (.cells #[.int .i64 h.k, .int .i64 h.n, .string h.t, .slice b1 h.keys.length f1, .slice b2 sub.len f2] 26 (0, 0)) ∧ h.keys.length ≤ f1 ∧ DrawnB d h sub ∧ KeRow w9'.heap.size W.heap.size W b1 h.keys ∧ OuRow w9'.heap.size W.heap.size W b2 sub := (hdep _ rfl ⟨6, .data⟩ (by simp) rfl).2
            have l5 := hj.c6 (hdep _ rfl ⟨6, .data⟩ (by simp) rfl).1
            have l7 : D.getD 7 false = false := by
              cases h8 : D.getD 7 false
              · rfl
              · rw [getD_both (by omega) h8] at hLi; cases hLi
            have q0 := hj.a1 l5 l7
            obtain ⟨g, cap, W8, hrun, q1, q2, q3, q4⟩ := app_out pre.length _ _ _ _ _ _ vs _ g6 W q0.own hc6 five_one' (by have := E2.out.1; omega) (by omega)
            have HJ8 : Hid _ := ItJ.put hj HP.out (by omega) (by omega) l5 l7 hf6 hd6 r6 s6 q1 q2 q3
            have HQ2 : Hid _ := q2
            have HVN : Hid _ := hj.vN
            clear hdep q1 q2 q3 r6 s6 hc6 q0 hcB
            refine wpOp_step rfl (fun K hK => ?_)
            refine wp_append_run (.tmp 50) (.tmp 55) _ rfl _ _ _ _ d1 d6 hrun ?_
            exact hK _ _ ⟨_, rfl, fun _ _ hx => ItPv.up HQ2.out.size (fun g a1 h2 => HQ2.out.block g h2 (fun e => by have := HVN.out _ e.symm; omega)) hx, trivial, HJ8.out⟩
          · clear hdep
            refine wpOp_step rfl (fun K hK => ?_)
            go_simp
            exact hK _ _ ⟨.pointer (some ⟨N1, 4, none⟩), by simp [upd], fun _ _ hx => hx, rfl, hj.step (Below.refl _ _) (by omega) (by omega) (by omega)⟩
        case last =>
          intro D y' W hLs hD hj hp
          have d8 : y' 57 = .pointer (some ⟨N1, 4, none⟩) := hp 8 (by omega)
          obtain ⟨⟨va', vc', e7⟩, hh, sub, vs', hdr, hM⟩ := hj.a2 (hD 7 (by omega))
          rw [e7] at hM
          have xB := fun o => row_cell hM.cell o
          have fB := fun o => row_frozen hM.cell o
          obtain ⟨W2, hW2⟩ : ∃ x : World, x = W.setCell ⟨N1, 4, none⟩ (.slice va' (pre.length + 1) vc') := ⟨_, rfl⟩
          have HF : Hid (OuAt w L w.heap.size N1 (N1 + 1) a n k d u (m + 1) W2) := by
            have hl : (pre ++ [(hh, sub)]).length = pre.length + 1 := by simp
            have h9 := hM.store HP.out
            rw [← hW2] at h9
            refine ⟨(ks ++ [keyAtD m]), .slice ka' (ks ++ [keyAtD m]).length kc', .slice va' (pre.length + 1) vc', vs', pre ++ [(hh, sub)], ?_, ⟨by rw [hl]; have := E2.out.1; omega, .inr ⟨by have := HU4.out; omega, HKN.out.1, by rw [hl]; exact HKN.out.2⟩⟩, ?_, by rw [hW2]; simp; have := hj.size; omega, ⟨_, _, rfl⟩, ⟨_, _, by rw [hl]⟩⟩
            · have e : k + 1 + m * (1 + choD d) + 1 + choD d = k + 1 + (m + 1) * (1 + choD d) := by rw [Nat.succ_mul]; omega
              rw [← e]; exact h9
            · intro x hx
              rcases List.mem_append.1 hx with hx | hx
              · exact E3.out x hx
              · rw [List.mem_singleton.1 hx]; exact hdr
          have HW2 : Hid _ := hW2
          clear hp hj hM hW2 hdr
          unfold wpTail
          refine wpOp_step rfl (fun K hK => ?_)
          go_simp
          refine hK _ _ ?_
          clear hK
          unfold wpTail
          rw [← HW2.out]
          go_wp2_with fail
          exact ⟨⟨m + 1, by first | rfl | go_num, by omega, HF⟩, by simp [intOf]; omega⟩
end Go.Proofs.YtoaeggfnlenjkaaGreatDoor.G
