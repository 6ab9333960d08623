/- Fields by their keys: what the groups are, and how they lie in memory. -/
import Derived.Test.YtkjndghkimnjeaaGreatVaFields
import Derived.Deep.QuietTactic
import Derived.Laws.StructEq
import Derived.Deep.CutRange
import Derived.Test.YtkjndghkimnjeaaGreatSchFind
namespace Go.Proofs.YtkjndghkimnjeaaGreat
open Go.ChangeShapes Go.WideShapes Go.ChangeAt Go.RowKit Go.Maps
set_option linter.unusedVariables false

theorem empty_of {s : ByteArray} (h : (s.toList == []) = true) : s = ⟨#[]⟩ := by
  apply toList_inj
  rw [beq_iff_eq.1 h]
  rw [ByteArray.toList_eq]
def EmS (s : ByteArray) : Prop := (s.toList == []) = true
set_option maxHeartbeats 2000000 in
theorem spec_key (x : Hd × Sels) (a1 a2 a3 : Option Addr) (c1 c2 c3 : Nat) (w : World) :
    Calls Tryz.prog 110 #[.agg #[.int .i64 x.1.k, .string x.1.al, .string x.1.nm, .slice a1 x.1.args.length c1, .slice a2 x.1.dirs.length c2, .slice a3 x.2.len c3]] w fun e w' => e = .returned (.string (kyB x.1)) ∧ Below w.heap.size w w' := by
  have HBV : Hid (Below w.heap.size w (w.alloc (.cells #[.int .i64 x.1.k, .string x.1.al, .string x.1.nm, .slice a1 x.1.args.length c1, .slice a2 x.1.dirs.length c2, .slice a3 x.2.len c3] 115))) := (Below.refl _ _).alloc (Nat.le_refl _) _
  cases hal : (x.1.al.toList == []) with
  | true =>
    have HK : Hid (kyB x.1 = x.1.nm) := by unfold Hid kyB; rw [if_pos hal]
    have hal' : (x.1.al.toList != []) = false := by simp [bne, hal]
    go_enter Tryz.func110, Tryz.ntmps110
    go_wp2_with fail
    go_ret
    exact ⟨by rw [HK.out]; rfl, HBV.out⟩
  | false =>
    have HK : Hid (kyB x.1 = x.1.al) := by unfold Hid kyB; rw [if_neg (by rw [hal]; decide)]
    have hal' : (x.1.al.toList != []) = true := by simp [bne, hal]
    go_enter Tryz.func110, Tryz.ntmps110
    go_wp2_with fail
    go_ret
    exact ⟨by rw [HK.out]; rfl, HBV.out⟩
set_option maxHeartbeats 2000000 in
theorem cmp_or (s t : ByteArray) (b : Nat) (w : World) (h0 : w.cell? ⟨b, 0, none⟩ = some (.string s)) (h1 : w.cell? ⟨b, 1, none⟩ = some (.string t)) :
    Calls Tryz.prog 157 #[.slice (some ⟨b, 0, none⟩) 2 2] w fun e w' => e = .returned (.string (if (s.toList == []) = true then t else s)) ∧ w' = w := by
  obtain ⟨R, HR⟩ : ∃ R, Hid (R = if (s.toList == []) = true then t else s) := ⟨_, rfl⟩
  rw [← HR.out]
  go_enter Tryz.func157, Tryz.ntmps157
  go_wp2_with fail
  go_loopw [8] (fun i w' => ∃ k : Nat, i = .int .i64 k ∧ k ≤ 2 ∧ w' = w ∧ (k = 0 ∨ (1 ≤ k ∧ Hid (EmS s) ∧ (k = 2 → Hid (EmS t))))) (fun i _ => 2 - (intOf i).toNat)
  case atStart => exact ⟨0, rfl, by omega, rfl, .inl rfl⟩
  case round =>
    obtain ⟨k, rfl, hk, hw, hor⟩ := hrel
    have hw' := hw.symm
    clear hw
    subst hw'
    have hcase : k = 0 ∨ k = 1 ∨ k = 2 := by omega
    rcases hcase with rfl | rfl | rfl
    · clear hor
      cases hs : (s.toList == []) with
      | true =>
        have HS : Hid (EmS s) := hs
        have hs' : (s.toList != []) = false := by simp [bne, hs]
        go_wp2_with fail
        exact ⟨⟨1, rfl, by omega, by first | trivial | rfl, .inr ⟨by omega, HS, fun h => by omega⟩⟩, by simp [intOf]⟩
      | false =>
        have hs' : (s.toList != []) = true := by simp [bne, hs]
        have HE : Hid (R = s) := by rw [Hid, HR.out, if_neg (by rw [hs]; decide)]
        go_wp2_with fail
        go_ret
        exact ⟨by rw [HE.out]; rfl, rfl⟩
    · have HS : Hid (EmS s) := by
        rcases hor with h | h
        · omega
        · exact h.2.1
      clear hor
      cases ht : (t.toList == []) with
      | true =>
        have HT : Hid (EmS t) := ht
        have ht' : (t.toList != []) = false := by simp [bne, ht]
        go_wp2_with fail
        exact ⟨⟨2, rfl, by omega, by first | trivial | rfl, .inr ⟨by omega, HS, fun _ => HT⟩⟩, by simp [intOf]⟩
      | false =>
        have ht' : (t.toList != []) = true := by simp [bne, ht]
        have HE : Hid (R = t) := by rw [Hid, HR.out, if_pos (show (s.toList == []) = true from HS.out)]
        go_wp2_with fail
        go_ret
        exact ⟨by rw [HE.out]; rfl, rfl⟩
    · have HE : Hid (R = ⟨#[]⟩) := by
        rcases hor with h | h
        · omega
        · rw [Hid, HR.out, if_pos (show (s.toList == []) = true from h.2.1.out), empty_of (h.2.2 rfl).out]
      clear hor
      go_wp2_with fail
      go_ret
      exact ⟨by rw [HE.out]; rfl, rfl⟩
set_option maxHeartbeats 2000000 in
theorem impl_key (x : Hd × Sels) (a1 a2 a3 : Option Addr) (c1 c2 c3 : Nat) (w : World) :
    Calls Tryz.prog 147 #[.agg #[.int .i64 x.1.k, .string x.1.al, .string x.1.nm, .slice a1 x.1.args.length c1, .slice a2 x.1.dirs.length c2, .slice a3 x.2.len c3]] w fun e w' => e = .returned (.string (kyB x.1)) ∧ Below w.heap.size w w' := by
  obtain ⟨V, hV⟩ : ∃ V, V = (w.alloc (.cells #[.int .i64 x.1.k, .string x.1.al, .string x.1.nm, .slice a1 x.1.args.length c1, .slice a2 x.1.dirs.length c2, .slice a3 x.2.len c3] 115)).alloc (.cells #[.string x.1.al, .string x.1.nm] 9) := ⟨_, rfl⟩
  have BV : Below w.heap.size w V := by rw [hV]; exact ((Below.refl _ _).alloc (Nat.le_refl _) _).alloc (by simp) _
  have c0 : V.heap[w.heap.size + 1]? = some (.cells #[.string x.1.al, .string x.1.nm] 9 (0, 0)) := by
    rw [hV]
    have := heap_alloc_new (w.alloc (.cells #[.int .i64 x.1.k, .string x.1.al, .string x.1.nm, .slice a1 x.1.args.length c1, .slice a2 x.1.dirs.length c2, .slice a3 x.2.len c3] 115)) (.cells #[.string x.1.al, .string x.1.nm] 9)
    simpa using this
  have HQ : Hid _ := cmp_or x.1.al x.1.nm (w.heap.size + 1) V (row_cell c0 0) (row_cell c0 1)
  have HBV : Hid _ := BV
  clear BV c0
  go_enter Tryz.func147, Tryz.ntmps147
  go_wp2_with fail
  rw [← hV]
  clear hV
  refine Calls.mono HQ.out ?_
  rintro e w1 ⟨rfl, rfl⟩
  have HK : Hid ((if (x.1.al.toList == []) = true then x.1.nm else x.1.al) = kyB x.1) := rfl
  rw [HK.out]
  go_wp2_with fail
  go_ret
  exact ⟨rfl, HBV.out⟩
set_option maxHeartbeats 4000000 in
theorem sels_tog (w0 : World) (f : List (Hd × Sels)) (a1 : Option Addr) (c1 : Nat) (w : World) (hr : FRow w0 0 w.heap.size w a1 f) (hl : f.length ≤ 1048576) (ht : (tog f).length ≤ 1048576) (hb0 : Below w0.heap.size w0 w) :
    Calls Tryz.prog 135 #[.slice a1 f.length c1] w fun e w' => (∃ a' c', e = .returned (.slice a' (tog f).length c') ∧ FOwn w0 w.heap.size 115 w' (.slice a' (tog f).length c') (tog f)) ∧ Below w.heap.size w w' := by
  have HR : Hid (FRow w0 0 w.heap.size w a1 f) := hr
  have HB0 : Hid (Below w0.heap.size w0 w) := hb0
  have HTL : Hid ((tog f).length ≤ 1048576) := ht
  clear hr hb0 ht
  go_enter Tryz.func135, Tryz.ntmps135
  go_wp2_with fail
  go_loopw [3, 8] (fun v i w' => ∃ (k : Nat) (g : List (Hd × Sels)) (a2 : Option Addr) (c2 : Nat), i = .int .i64 k ∧ v = .slice a2 g.length c2 ∧ k ≤ f.length ∧ Hid (g = tog (f.take k)) ∧ Hid (Below w.heap.size w w') ∧ Hid (FOwn w0 w.heap.size 115 w' (.slice a2 g.length c2) g)) (fun _ i _ => f.length - (intOf i).toNat)
  case atStart => exact ⟨0, [], none, 0, rfl, rfl, Nat.zero_le _, by simp [Hid, tog], Below.refl _ _, FOwn.none _ _ _ _⟩
  case round =>
    obtain ⟨k, g, a2, c2, rfl, rfl, hk, HG, HB, HO⟩ := hrel
    obtain ⟨wo, rfl⟩ : ∃ z, z = wr := ⟨_, rfl⟩
    by_cases hlt : k < f.length
    case neg =>
      have hlt' : ¬ (k : Int) < f.length := by omega
      have HE : Hid (tog f = g) := by rw [Hid, HG.out, List.take_of_length_le (by omega)]
      clear HG
      go_wp2_with fail
      go_ret
      exact ⟨⟨a2, c2, by rw [HE.out]; rfl, by rw [HE.out]; exact HO.out⟩, HB.out⟩
    have hlt' : (k : Int) < f.length := by omega
    obtain ⟨b, o, b1, e1, b2, e2, b3, e3, ha, hbl, d0, d1, d2, d3, d4, d5, r1, q1, r2, r3⟩ := FRow.cells (Row.up HR.out HB.out) k hlt
    subst ha
    have hgt : tog (f.take (k + 1)) = g ++ toL f[k].2 := by
      rw [List.take_succ_eq_append_getElem hlt, HG.out]
      unfold tog
      rw [List.flatMap_append]; simp
    have hgl : g.length + f[k].2.len ≤ 1048576 := by
      have h1 : tog f = tog (f.take (k + 1)) ++ tog (f.drop (k + 1)) := by unfold tog; rw [← List.flatMap_append, List.take_append_drop]
      have h2 := HTL.out
      rw [h1, hgt] at h2
      simp only [List.length_append, toL_len] at h2
      omega
    have HGT : Hid (g ++ toL f[k].2 = tog (f.take (k + 1))) := hgt.symm
    obtain ⟨x, hx⟩ : ∃ x, x = f[k] := ⟨_, rfl⟩
    rw [← hx] at d0 d1 d2 d3 d4 d5 r3 HGT hgl
    clear hx r1 q1 r2 hgt
    obtain ⟨V, hV⟩ : ∃ V, V = wo.alloc (.cells #[.int .i64 x.1.k, .string x.1.al, .string x.1.nm, .slice b1 x.1.args.length e1, .slice b2 x.1.dirs.length e2, .slice b3 x.2.len e3] 115) := ⟨_, rfl⟩
    have BV : Below wo.heap.size wo V := by rw [hV]; exact (Below.refl _ _).alloc (Nat.le_refl _) _
    have c0 : V.heap[wo.heap.size]? = some (.cells #[.int .i64 x.1.k, .string x.1.al, .string x.1.nm, .slice b1 x.1.args.length e1, .slice b2 x.1.dirs.length e2, .slice b3 x.2.len e3] 115 (0, 0)) := by rw [hV]; exact heap_alloc_new _ _
    have HBV : Hid (Below w.heap.size w V) := HB.out.trans (BV.mono HB.out.size)
    have HOV : Hid (FOwn w0 w.heap.size 115 V (.slice a2 g.length c2) g) := HO.out.up BV
    have HLO : Hid (∀ q, (Value.slice a2 g.length c2).ownBlock = some q → w.heap.size ≤ q ∧ q < V.heap.size) := HOV.out.lt
    have R5 : Hid (FRow w0 0 V.heap.size V b3 (toL x.2)) := SelRow.fr2 r3 (HB0.out.trans (HBV.out.mono HB0.out.size))
    have x0 := fun o => row_cell c0 o
    have hzV := HBV.out.size
    clear BV c0 HO r3
    go_upto_region 5 with fail
    rw [← hV]
    clear hV d0 d1 d2 d3 d4 d5
    go_wp2_with (first | (at_builtin; revert hl) | fail)
    intro hl
    refine wpList_append_sels (w0 := w0) rfl _ _ rfl w.heap.size (.slice a2 g.length c2) g (toL x.2) rfl HOV.out b3 e3 (by rw [toL_len]; rfl) R5.out (by rw [toL_len]; omega) hzV ?_
    intro a8 c8 w8 ho8 hg8 _
    rw [toL_len] at ho8 ⊢
    have O8 : Hid (FOwn w0 w.heap.size 115 w8 (.slice a8 (g.length + x.2.len) c8) (g ++ toL x.2)) := ho8
    have B8 : Hid (Below w.heap.size w w8) := HBV.out.grown hg8 hzV (fun q hq => (HLO.out q hq).1)
    clear ho8 hg8 x0
    go_wp2_with fail
    exact ⟨⟨k + 1, g ++ toL x.2, a8, c8, by go_num, by simp [toL_len], by omega, HGT, B8, by simpa [Hid, toL_len] using O8.out⟩, by simp [intOf]; omega⟩
end Go.Proofs.YtkjndghkimnjeaaGreat
namespace Go.Proofs.YtkjndghkimnjeaaGreat
open Go.ChangeShapes Go.WideShapes Go.ChangeAt Go.RowKit Go.Maps
set_option linter.unusedVariables false

def arE (x y : Ar) : Bool := (x.nm.toList == y.nm.toList) && (x.v.k == y.v.k) && (x.v.n == y.v.n) && (x.v.t.toList == y.v.t.toList)
theorem arE_iff {x y : Ar} : arE x y = true ↔ x = y := by
  unfold arE
  simp only [Bool.and_eq_true, beq_iff_eq]
  constructor
  · rintro ⟨⟨⟨h1, h2⟩, h3⟩, h4⟩
    obtain ⟨nm, k, n, t⟩ := x
    obtain ⟨nm', k', n', t'⟩ := y
    simp only at h1 h2 h3 h4
    rw [toList_inj h1, h2, h3, toList_inj h4]
  · rintro rfl; exact ⟨⟨⟨rfl, rfl⟩, rfl⟩, rfl⟩
theorem eq_va (k n k' n' : Int) (t t' : ByteArray) (w : World) : (Op.equalIn 9999 62 (.agg #[.int .i64 k, .int .i64 n, .string t]) (.agg #[.int .i64 k', .int .i64 n', .string t'])).run Tryz.prog w = .ok ((k == k') && (n == n') && (t.toList == t'.toList)) w := by
  have u3 := Tryz.underlying3
  have a3 := Tryz.isAgg3
  have z3 := Tryz.sizeOf3
  have u9 := Tryz.underlying9
  have a9 := Tryz.isAgg9
  have z9 := Tryz.sizeOf9
  have hS : Tryz.prog.underlying 62 = some (.struct (Tryz.prog.fieldsOf 62)) := by kernel_rfl
  rw [show (9999 : Nat) = 9998 + 1 from rfl, run_equalIn_agg w 9998 62 _ _ hS (by kernel_rfl)]
  simp only [Program.fieldsOf, Tryz.underlying62]
  go_simp
  cases h1 : (k == k') <;> cases h2 : (n == n') <;> cases h3 : (t.toList == t'.toList) <;> simp_all
theorem eq_ar (x y : Ar) (w : World) : (Op.equalIn 10000 134 (.agg #[.string x.nm, .int .i64 x.v.k, .int .i64 x.v.n, .string x.v.t]) (.agg #[.string y.nm, .int .i64 y.v.k, .int .i64 y.v.n, .string y.v.t])).run Tryz.prog w = .ok (arE x y) w := by
  have u9 := Tryz.underlying9
  have a9 := Tryz.isAgg9
  have z9 := Tryz.sizeOf9
  have av := Tryz.isAgg62
  have zv := Tryz.sizeOf62
  have ev := fun w => eq_va x.v.k x.v.n y.v.k y.v.n x.v.t y.v.t w
  have hS : Tryz.prog.underlying 134 = some (.struct (Tryz.prog.fieldsOf 134)) := by kernel_rfl
  rw [show (10000 : Nat) = 9999 + 1 from rfl, run_equalIn_agg w 9999 134 _ _ hS (by kernel_rfl)]
  simp only [Program.fieldsOf, Tryz.underlying134]
  go_simp
  unfold arE
  cases h1 : (x.nm.toList == y.nm.toList) <;> cases h2 : (x.v.k == y.v.k) <;> cases h3 : (x.v.n == y.v.n) <;> cases h4 : (x.v.t.toList == y.v.t.toList) <;> simp_all
theorem eql_ar (x y : Ar) (w : World) : (binOp .eql 134 (.agg #[.string x.nm, .int .i64 x.v.k, .int .i64 x.v.n, .string x.v.t]) (.agg #[.string y.nm, .int .i64 y.v.k, .int .i64 y.v.n, .string y.v.t])).run Tryz.prog w = .ok (.bool (arE x y)) w := by
  rw [run_eql_struct, eq_ar]; rfl
theorem guard_ar (o1 o2 : Operand) (xs ys : Array Value) (w : World) : (eqGuard .eql 134 o1 o2 (.agg xs) (.agg ys)).run Tryz.prog w = .ok () w := run_eqGuard_agg w .eql 134 o1 o2 xs ys (by kernel_rfl)
def anyT (x : Ar) (ys : List Ar) (q : Nat) : Bool := (ys.take q).any (arE x)
def sameAB (a b : List Ar) : Bool := (a.length == b.length) && a.all fun x => b.any (arE x)
set_option maxHeartbeats 8000000 in
set_option maxRecDepth 40000 in
theorem spec_same (xs ys : List Ar) (a1 a2 : Option Addr) (c1 c2 : Nat) (w : World) (r1 : ArRow 0 w.heap.size w a1 xs) (r2 : ArRow 0 w.heap.size w a2 ys) (h1 : xs.length ≤ 1048576) (h2 : ys.length ≤ 1048576) :
    Calls Tryz.prog 111 #[.slice a1 xs.length c1, .slice a2 ys.length c2] w fun e w' => e = .returned (.bool (sameAB xs ys)) ∧ Below w.heap.size w w' := by
  obtain ⟨R, HR⟩ : ∃ R, Hid (R = sameAB xs ys) := ⟨_, rfl⟩
  rw [← HR.out]
  have HR1 : Hid (ArRow 0 w.heap.size w a1 xs) := r1
  have HR2 : Hid (ArRow 0 w.heap.size w a2 ys) := r2
  clear r1 r2
  by_cases hne : xs.length = ys.length
  case neg =>
    have hb : ((xs.length : Int) != (ys.length : Int)) = true := by simp [bne]; omega
    have HE : Hid (R = false) := by rw [Hid, HR.out]; unfold sameAB; rw [show (xs.length == ys.length) = false by simpa using hne]; rfl
    clear hne
    go_enter Tryz.func111, Tryz.ntmps111
    go_wp2_with fail
    go_ret
    exact ⟨by rw [HE.out]; rfl, Below.refl _ _⟩
  have HLE : Hid (xs.length = ys.length) := hne
  have hb : ((xs.length : Int) != (ys.length : Int)) = false := by rw [hne]; simp
  clear hne
  go_enter Tryz.func111, Tryz.ntmps111
  go_wp2_with fail
  go_loopw [5] (fun i w' => ∃ k : Nat, i = .int .i64 k ∧ k ≤ xs.length ∧ Hid (Below w.heap.size w w') ∧ Hid ((xs.take k).all (fun x => ys.any (arE x)) = true)) (fun i _ => xs.length - (intOf i).toNat)
  case atStart => exact ⟨0, rfl, Nat.zero_le _, Below.refl _ _, rfl⟩
  case round =>
    obtain ⟨k, rfl, hk, HB, HA⟩ := hrel
    obtain ⟨wo, rfl⟩ : ∃ z, z = wr := ⟨_, rfl⟩
    by_cases hlt : k < xs.length
    case neg =>
      have hlt' : ¬ (k : Int) < xs.length := by omega
      have HE : Hid (R = true) := by
        have := HA.out
        rw [List.take_of_length_le (by omega)] at this
        rw [Hid, HR.out]; unfold sameAB
        rw [this, show (xs.length == ys.length) = true by simpa using HLE.out]; rfl
      go_wp2_with fail
      go_ret
      exact ⟨by rw [HE.out]; rfl, HB.out⟩
    have hlt' : (k : Int) < xs.length := by omega
    have HNO : Hid (ys.any (arE xs[k]) = false → R = false) := fun h => by
      rw [HR.out]; unfold sameAB
      have : xs.all (fun x => ys.any (arE x)) = false := by
        rw [List.all_eq_false]
        exact ⟨xs[k], List.getElem_mem hlt, by rw [h]; simp⟩
      rw [this, Bool.and_false]
    have HYES : Hid (ys.any (arE xs[k]) = true → (xs.take (k + 1)).all (fun x => ys.any (arE x)) = true) := fun h => by
      rw [List.take_succ_eq_append_getElem hlt, List.all_append, HA.out]
      simp [h]
    obtain ⟨b, o, ha, _, hbl, d0, d1, d2, d3⟩ := Row.cells_ar HR1.out k hlt
    subst ha
    obtain ⟨x, hx⟩ : ∃ x, x = xs[k] := ⟨_, rfl⟩
    rw [← hx] at d0 d1 d2 d3 HNO HYES
    have D0 : Hid _ := d0
    have D1 : Hid _ := d1
    have D2 : Hid _ := d2
    have D3 : Hid _ := d3
    clear hx d0 d1 d2 d3 HA
    go_wp2_with fail
    go_loopw [6, 7] (fun v j w' => ∃ q : Nat, j = .int .i64 q ∧ v = .bool (anyT x ys q) ∧ q ≤ ys.length ∧ Hid (Below w.heap.size w w')) (fun _ j _ => ys.length - (intOf j).toNat)
    case atStart => exact ⟨0, rfl, by simp [anyT], Nat.zero_le _, HB⟩
    case round =>
      obtain ⟨q, rfl, rfl, hq, HB2⟩ := hrel
      obtain ⟨wi, rfl⟩ : ∃ z, z = wr := ⟨_, rfl⟩
      by_cases hql : q < ys.length
      case neg =>
        have hql' : ¬ (q : Int) < ys.length := by omega
        have he : anyT x ys q = ys.any (arE x) := by unfold anyT; rw [List.take_of_length_le (by omega)]
        cases hf : ys.any (arE x) with
        | true =>
          have HA2 : Hid _ := HYES.out hf
          rw [he, hf]
          go_wp2_with fail
          go_roundw
          case rel => exact ⟨k + 1, by go_num, by omega, HB2, HA2⟩
          case measure => simp [intOf]; omega
        | false =>
          have HE : Hid (R = false) := HNO.out hf
          rw [he, hf]
          go_wp2_with fail
          go_ret
          exact ⟨by rw [HE.out]; rfl, HB2.out⟩
      have hql' : (q : Int) < ys.length := by omega
      obtain ⟨b', o', ha', _, hbl', f0, f1, f2, f3⟩ := Row.cells_ar HR2.out q hql
      subst ha'
      have hnx : anyT x ys (q + 1) = (anyT x ys q || arE x ys[q]) := by
        unfold anyT
        rw [List.take_succ_eq_append_getElem hql, List.any_append]; simp
      have g0 := (HB2.out.cell (p := ⟨b, o + k * 4, none⟩) hbl).trans D0.out
      have g1 := (HB2.out.cell (p := ⟨b, o + k * 4 + 1, none⟩) hbl).trans D1.out
      have g2 := (HB2.out.cell (p := ⟨b, o + k * 4 + 2, none⟩) hbl).trans D2.out
      have g3 := (HB2.out.cell (p := ⟨b, o + k * 4 + 3, none⟩) hbl).trans D3.out
      replace f0 := (HB2.out.cell (p := ⟨b', o' + q * 4, none⟩) hbl').trans f0
      replace f1 := (HB2.out.cell (p := ⟨b', o' + q * 4 + 1, none⟩) hbl').trans f1
      replace f2 := (HB2.out.cell (p := ⟨b', o' + q * 4 + 2, none⟩) hbl').trans f2
      replace f3 := (HB2.out.cell (p := ⟨b', o' + q * 4 + 3, none⟩) hbl').trans f3
      obtain ⟨y, hy⟩ : ∃ y, y = ys[q] := ⟨_, rfl⟩
      rw [← hy] at f0 f1 f2 f3 hnx
      have HNX : Hid _ := hnx
      clear hy hnx
      cases hf : anyT x ys q with
      | true =>
        have HV : Hid (anyT x ys (q + 1) = true) := by rw [Hid, HNX.out, hf]; rfl
        clear hf
        go_upto_region 10 with fail
        go_quiet (fail)
        go_wp2_with fail
        go_roundw
        case rel => exact ⟨q + 1, by go_num, by rw [HV.out], by omega, HB2.out.trans (by exact ⟨rfl, rfl, rfl, Nat.le_refl _, fun _ _ => rfl⟩)⟩
        case measure => simp [intOf]; omega
      | false =>
        have HV : Hid (anyT x ys (q + 1) = arE x y) := by rw [Hid, HNX.out, hf]; rfl
        have heq := fun w => eql_ar x y w
        have hgd := fun o1 o2 xs ys w => guard_ar o1 o2 xs ys w
        clear hf
        go_upto_region 10 with fail
        go_quiet (fail)
        go_wp2_with fail
        exact ⟨⟨q + 1, by go_num, by rw [HV.out], by omega, HB2.out.trans (by exact ⟨rfl, rfl, rfl, Nat.le_refl _, fun _ _ => rfl⟩)⟩, by simp [intOf]; omega⟩
end Go.Proofs.YtkjndghkimnjeaaGreat
namespace Go.Proofs.YtkjndghkimnjeaaGreat
open Go.ChangeShapes Go.WideShapes Go.ChangeAt Go.RowKit
set_option linter.unusedVariables false

theorem nodup_names {xs : List Ar} (h : (xs.map fun a => a.nm.toList).Nodup) : xs.Nodup := by
  induction xs with
  | nil => exact List.nodup_nil
  | cons x xs ih =>
    rw [List.map_cons, List.nodup_cons] at h
    rw [List.nodup_cons]
    exact ⟨fun hx => h.1 (List.mem_map.2 ⟨x, hx, rfl⟩), ih h.2⟩
theorem perm_of_sub {α : Type} [DecidableEq α] : ∀ (xs ys : List α), xs.Nodup → (∀ x ∈ xs, x ∈ ys) → xs.length = ys.length → xs.Perm ys
  | [], ys, _, _, hl => by
    obtain rfl : ys = [] := List.length_eq_zero_iff.1 (by simpa using hl.symm)
    exact .nil
  | x :: xs, ys, hn, hs, hl => by
    have hx : x ∈ ys := hs x (by simp)
    rw [List.nodup_cons] at hn
    have h1 := perm_of_sub xs (ys.erase x) hn.2 (fun y hy => by
      have hne : y ≠ x := fun e => hn.1 (e ▸ hy)
      exact (List.mem_erase_of_ne hne).2 (hs y (by simp [hy]))) (by
      rw [List.length_erase_of_mem hx]
      simp at hl
      omega)
    exact (h1.cons x).trans (List.perm_cons_erase hx).symm
instance : DecidableEq Ar := fun x y => decidable_of_iff _ arE_iff
theorem sameAB_iff {xs ys : List Ar} (h : (xs.map fun a => a.nm.toList).Nodup) : sameAB xs ys = true ↔ xs.Perm ys := by
  unfold sameAB
  simp only [Bool.and_eq_true, beq_iff_eq, List.all_eq_true, List.any_eq_true]
  constructor
  · rintro ⟨h1, h2⟩
    refine perm_of_sub xs ys (nodup_names h) (fun x hx => ?_) h1
    obtain ⟨y, hy, e⟩ := h2 x hx
    rw [arE_iff.1 e]; exact hy
  · intro hp
    refine ⟨hp.length_eq, fun x hx => ⟨x, hp.mem_iff.1 hx, arE_iff.2 rfl⟩⟩
/-- What is asked under the two is the same: a Bool. -/
def sameB (x y : Hd) : Bool := (x.nm.toList == y.nm.toList) && sameAB x.args y.args
theorem sameB_iff {x y : Hd} (h : (x.args.map fun a => a.nm.toList).Nodup) : sameB x y = true ↔ SameA x y := by
  unfold sameB SameA
  rw [Bool.and_eq_true, beq_iff_eq, sameAB_iff h]
theorem ofK_take_yes {f : List (Hd × Sels)} {k : Nat} (hk : k < f.length) {key : List UInt8} (h : kyL f[k] = key) : tog (ofK key (f.take (k + 1))) = tog (ofK key (f.take k)) ++ toL f[k].2 := by
  unfold ofK tog
  rw [List.take_succ_eq_append_getElem hk, List.filter_append, List.flatMap_append]
  simp [h]
theorem ofK_take_no {f : List (Hd × Sels)} {k : Nat} (hk : k < f.length) {key : List UInt8} (h : kyL f[k] ≠ key) : tog (ofK key (f.take (k + 1))) = tog (ofK key (f.take k)) := by
  unfold ofK tog
  rw [List.take_succ_eq_append_getElem hk, List.filter_append, List.flatMap_append]
  simp [h]
/-- The inner round: those ahead of k that have the key ask the same; whether none of them is ahead of i. -/
structure MrI (f : List (Hd × Sels)) (i k : Nat) (hi : i < f.length) (first : Bool) : Prop where
  same : ∀ t (h : t < f.length), t < k → kyL f[t] = kyL f[i] → SameA f[t].1 f[i].1
  fst : first = true ↔ ∀ t (h : t < f.length), t < k → kyL f[t] = kyL f[i] → i ≤ t
theorem MrI.start {f : List (Hd × Sels)} {i : Nat} (hi : i < f.length) : MrI f i 0 hi true := ⟨fun t _ h => absurd h (by omega), ⟨fun _ t _ h => absurd h (by omega), fun _ => rfl⟩⟩
theorem MrI.skip {f : List (Hd × Sels)} {i k : Nat} {hi : i < f.length} {first : Bool} (h : MrI f i k hi first) (hk : k < f.length) (hn : kyL f[k] ≠ kyL f[i]) : MrI f i (k + 1) hi first := by
  refine ⟨fun t ht h1 h2 => ?_, ⟨fun hf t ht h1 h2 => ?_, fun hf => h.fst.2 fun t ht h1 h2 => hf t ht (by omega) h2⟩⟩
  · by_cases e : t = k
    · subst e; exact absurd h2 hn
    · exact h.same t ht (by omega) h2
  · by_cases e : t = k
    · subst e; exact absurd h2 hn
    · exact h.fst.1 hf t ht (by omega) h2
theorem MrI.next {f : List (Hd × Sels)} {i k : Nat} {hi : i < f.length} {first : Bool} (h : MrI f i k hi first) (hk : k < f.length) (he : kyL f[k] = kyL f[i]) (hs : SameA f[k].1 f[i].1) : MrI f i (k + 1) hi (first && decide (i ≤ k)) := by
  refine ⟨fun t ht h1 h2 => ?_, ⟨fun hf t ht h1 h2 => ?_, fun hf => ?_⟩⟩
  · by_cases e : t = k
    · subst e; exact hs
    · exact h.same t ht (by omega) h2
  · rw [Bool.and_eq_true, decide_eq_true_eq] at hf
    by_cases e : t = k
    · subst e; exact hf.2
    · exact h.fst.1 hf.1 t ht (by omega) h2
  · rw [Bool.and_eq_true, decide_eq_true_eq]
    exact ⟨h.fst.2 fun t ht h1 h2 => hf t ht (by omega) h2, hf k hk (by omega) he⟩
/-- The outer round: each of those ahead is settled. -/
def MrO (l : List De) (f : List (Hd × Sels)) (i : Nat) : Prop := ∀ j (h : j < f.length), j < i → (∀ y ∈ f, kyL y = kyL f[j] → SameA y.1 f[j].1) ∧ MOk l (tog (ofK (kyL f[j]) f))
theorem MrO.start (l : List De) (f : List (Hd × Sels)) : MrO l f 0 := fun j _ h => absurd h (by omega)
theorem MrI.all {f : List (Hd × Sels)} {i : Nat} {hi : i < f.length} {first : Bool} (h : MrI f i f.length hi first) : ∀ y ∈ f, kyL y = kyL f[i] → SameA y.1 f[i].1 := fun y hy he => by
  obtain ⟨t, ht, rfl⟩ := List.getElem_of_mem hy
  exact h.same t ht ht he
theorem MrO.next {l : List De} {f : List (Hd × Sels)} {i : Nat} {hi : i < f.length} {first : Bool} (h : MrO l f i) (hI : MrI f i f.length hi first) (hm : first = true → MOk l (tog (ofK (kyL f[i]) f))) : MrO l f (i + 1) := fun j hj h1 => by
  by_cases e : j = i
  · subst e
    refine ⟨hI.all, ?_⟩
    cases hf : first with
    | true => exact hm hf
    | false =>
      have : ¬ ∀ t (h : t < f.length), t < f.length → kyL f[t] = kyL f[j] → j ≤ t := fun hc => by rw [hI.fst.2 hc] at hf; cases hf
      refine Classical.byContradiction fun hno => this fun t ht _ he => ?_
      refine Classical.byContradiction fun hlt => hno ?_
      have := (h t ht (by omega)).2
      rwa [he] at this
  · exact h j hj (by omega)
theorem MrO.done {l : List De} {s f : List (Hd × Sels)} (hf : Flat l s f) (h : MrO l f f.length) : MOk l s := by
  refine .mk hf (fun x hx y hy he => ?_) fun x hx => ?_
  · obtain ⟨j, hj, rfl⟩ := List.getElem_of_mem hy
    exact (h j hj hj).1 x hx he
  · obtain ⟨j, hj, rfl⟩ := List.getElem_of_mem hx
    exact (h j hj hj).2
theorem MOk.no_same {l : List De} {s f : List (Hd × Sels)} (hf : Flat l s f) {x y : Hd × Sels} (hx : x ∈ f) (hy : y ∈ f) (he : kyL x = kyL y) (hn : ¬ SameA x.1 y.1) : ¬ MOk l s := fun hm => hn ((hm.inv hf).1 x hx y hy he)
theorem MOk.no_group {l : List De} {s f : List (Hd × Sels)} (hf : Flat l s f) {x : Hd × Sels} (hx : x ∈ f) (hn : ¬ MOk l (tog (ofK (kyL x) f))) : ¬ MOk l s := fun hm => hn ((hm.inv hf).2 x hx)
theorem LB.flat {l : List De} (hd : DefsBd 1048576 l) {s f : List (Hd × Sels)} (h : Flat l s f) (hl : f.length ≤ 1048576) : LB s → LB f := by
  intro hs
  refine ⟨hl, ?_⟩
  have key : ∀ {s f : List (Hd × Sels)}, Flat l s f → (∀ x ∈ s, HdBd 1048576 x.1 ∧ x.2.len ≤ 1048576 ∧ SelsBd 1048576 x.2) → ∀ x ∈ f, HdBd 1048576 x.1 ∧ x.2.len ≤ 1048576 ∧ SelsBd 1048576 x.2 := by
    intro s f h
    induction h with
    | nil => exact fun h => h
    | fld h1 h2 ih =>
      intro hs y hy
      rcases List.mem_cons.1 hy with rfl | hy
      · exact hs y (by simp)
      · exact ih (fun z hz => hs z (by simp [hz])) y hy
    | oth h1 h2 h3 ih2 ih3 =>
      intro hs y hy
      rcases List.mem_append.1 hy with hy | hy
      · exact ih2 (LB.inS hd (hs _ (by simp)).2).1.2 y hy
      · exact ih3 (fun z hz => hs z (by simp [hz])) y hy
  exact key h hs.2
theorem LB.tog {f : List (Hd × Sels)} (h : LB f) (k : List UInt8) (hl : (Go.Proofs.YtkjndghkimnjeaaGreat.tog (ofK k f)).length ≤ 1048576) : LB (Go.Proofs.YtkjndghkimnjeaaGreat.tog (ofK k f)) := by
  refine ⟨hl, fun y hy => ?_⟩
  unfold Go.Proofs.YtkjndghkimnjeaaGreat.tog ofK at hy
  obtain ⟨x, hx, hxy⟩ := List.mem_flatMap.1 hy
  exact (h.2 x (List.mem_filter.1 hx).1).2.2.mem y hxy
end Go.Proofs.YtkjndghkimnjeaaGreat
namespace Go.Proofs.YtkjndghkimnjeaaGreat
open Go.ChangeShapes Go.WideShapes Go.ChangeAt Go.RowKit Go.Maps
set_option linter.unusedVariables false

def gstep (ks : List ByteArray) (x : Hd × Sels) : List ByteArray := if G.seen ks (kyB x.1) = true then ks else ks ++ [kyB x.1]
/-- The keys, as they first come. -/
def gkeys (f : List (Hd × Sels)) : List ByteArray := f.foldl gstep []
theorem gkeys_snoc (f : List (Hd × Sels)) (x : Hd × Sels) : gkeys (f ++ [x]) = gstep (gkeys f) x := by
  unfold gkeys; rw [List.foldl_append]; rfl
theorem seen_snoc (ks : List ByteArray) (t s : ByteArray) : G.seen (ks ++ [t]) s = (G.seen ks s || (t.toList == s.toList)) := by
  unfold G.seen; rw [List.any_append]; simp
theorem gstep_mono {ks : List ByteArray} {x : Hd × Sels} {s : ByteArray} (h : G.seen ks s = true) : G.seen (gstep ks x) s = true := by
  unfold gstep; split
  · exact h
  · rw [seen_snoc, h]; rfl
theorem gstep_self (ks : List ByteArray) (x : Hd × Sels) : G.seen (gstep ks x) (kyB x.1) = true := by
  unfold gstep; split
  · assumption
  · rw [seen_snoc]; simp
theorem fold_mono : ∀ (f : List (Hd × Sels)) (ks : List ByteArray) {s : ByteArray}, G.seen ks s = true → G.seen (f.foldl gstep ks) s = true
  | [], _, _, h => h
  | x :: f, ks, _, h => fold_mono f (gstep ks x) (gstep_mono h)
theorem fold_mem : ∀ (f : List (Hd × Sels)) (ks : List ByteArray) (x : Hd × Sels), x ∈ f → G.seen (f.foldl gstep ks) (kyB x.1) = true
  | y :: f, ks, x, h => by
    rcases List.mem_cons.1 h with rfl | h
    · exact fold_mono f _ (gstep_self ks _)
    · exact fold_mem f _ x h
theorem gkeys_mem {f : List (Hd × Sels)} {x : Hd × Sels} (h : x ∈ f) : G.seen (gkeys f) (kyB x.1) = true := fold_mem f [] x h
theorem fold_ex : ∀ (f : List (Hd × Sels)) (ks : List ByteArray) (s : ByteArray), G.seen (f.foldl gstep ks) s = true → G.seen ks s = true ∨ ∃ x ∈ f, kyL x = s.toList
  | [], _, _, h => .inl h
  | x :: f, ks, s, h => by
    rcases fold_ex f (gstep ks x) s h with h | ⟨y, hy, e⟩
    · unfold gstep at h
      split at h
      · exact .inl h
      · rw [seen_snoc, Bool.or_eq_true] at h
        rcases h with h | h
        · exact .inl h
        · exact .inr ⟨x, by simp, by simpa [kyL] using h⟩
    · exact .inr ⟨y, by simp [hy], e⟩
theorem seen_at {ks : List ByteArray} {s : ByteArray} (h : G.seen ks s = true) : ∃ i, ∃ hi : i < ks.length, ks[i].toList = s.toList := by
  unfold G.seen at h
  rw [List.any_eq_true] at h
  obtain ⟨t, ht, e⟩ := h
  obtain ⟨i, hi, rfl⟩ := List.getElem_of_mem ht
  exact ⟨i, hi, by simpa using e⟩
theorem gkeys_ex {f : List (Hd × Sels)} {i : Nat} (h : i < (gkeys f).length) : ∃ x ∈ f, kyL x = (gkeys f)[i].toList := by
  have h9 : G.seen (gkeys f) (gkeys f)[i] = true := G.seen_of' h (by simp)
  rcases fold_ex f [] (gkeys f)[i] h9 with h | h
  · simp [G.seen] at h
  · exact h
theorem fold_nodup : ∀ (f : List (Hd × Sels)) (ks : List ByteArray), (ks.map ByteArray.toList).Nodup → ((f.foldl gstep ks).map ByteArray.toList).Nodup
  | [], _, h => h
  | x :: f, ks, h => by
    refine fold_nodup f _ ?_
    unfold gstep; split
    · exact h
    · rename_i hn
      rw [List.map_append, List.nodup_append]
      refine ⟨h, by simp, fun a ha b hb e => hn ?_⟩
      obtain ⟨t, ht, rfl⟩ := List.mem_map.1 ha
      obtain ⟨i, hi, rfl⟩ := List.getElem_of_mem ht
      simp only [List.map_cons, List.map_nil, List.mem_singleton] at hb
      exact G.seen_of' hi (by rw [e, hb]; simp)
theorem gkeys_nodup (f : List (Hd × Sels)) : ((gkeys f).map ByteArray.toList).Nodup := fold_nodup f [] (by simp)
theorem gkeys_ne {f : List (Hd × Sels)} {i j : Nat} (hi : i < (gkeys f).length) (hj : j < (gkeys f).length) (h : i ≠ j) : (gkeys f)[i].toList ≠ (gkeys f)[j].toList := by
  intro e
  have hp := List.pairwise_iff_getElem.1 (gkeys_nodup f)
  rcases Nat.lt_or_gt_of_ne h with hlt | hlt
  · exact hp i j (by simpa using hi) (by simpa using hj) hlt (by simpa using e)
  · exact hp j i (by simpa using hj) (by simpa using hi) hlt (by simpa using e.symm)
theorem fold_len : ∀ (f : List (Hd × Sels)) (ks : List ByteArray), (f.foldl gstep ks).length ≤ ks.length + f.length
  | [], _ => by simp
  | x :: f, ks => by
    have h1 := fold_len f (gstep ks x)
    have h2 : (gstep ks x).length ≤ ks.length + 1 := by unfold gstep; split <;> simp
    simp only [List.foldl_cons, List.length_cons]; omega
theorem gkeys_len (f : List (Hd × Sels)) : (gkeys f).length ≤ f.length := by have := fold_len f []; simp only [List.length_nil, Nat.zero_add] at this; exact this
theorem ofK_snoc (k : List UInt8) (f : List (Hd × Sels)) (x : Hd × Sels) : ofK k (f ++ [x]) = if kyL x = k then ofK k f ++ [x] else ofK k f := by
  unfold ofK
  rw [List.filter_append]
  by_cases h : kyL x = k
  · rw [if_pos h]; simp [h]
  · rw [if_neg h]; simp [h]
theorem ofK_none {f : List (Hd × Sels)} {s : ByteArray} (h : G.seen (gkeys f) s = false) : ofK s.toList f = [] := by
  unfold ofK
  rw [List.filter_eq_nil_iff]
  intro x hx he
  have h1 := gkeys_mem hx
  have h2 : (kyB x.1).toList = s.toList := by simpa [kyL] using he
  unfold G.seen at h1 h
  rw [h2] at h1
  rw [h1] at h; cases h

/-- A group's two cells. -/
def gcells : List (ByteArray × Value) → List Value
  | [] => []
  | p :: ps => .string p.1 :: p.2 :: gcells ps
theorem gcells_len : ∀ ps, (gcells ps).length = ps.length * 2
  | [] => rfl
  | p :: ps => by simp only [gcells, List.length_cons, gcells_len ps]; omega
theorem gcells_get : ∀ (ps : List (ByteArray × Value)) (i : Nat) (h : i < ps.length), (gcells ps)[i * 2]? = some (.string ps[i].1) ∧ (gcells ps)[i * 2 + 1]? = some ps[i].2
  | p :: ps, 0, h => ⟨rfl, rfl⟩
  | p :: ps, i + 1, h => by
    have := gcells_get ps i (by simpa using h)
    rw [show (i + 1) * 2 = i * 2 + 2 by omega]
    exact this
theorem gcells_snoc : ∀ (ps : List (ByteArray × Value)) (p : ByteArray × Value), gcells (ps ++ [p]) = gcells ps ++ [.string p.1, p.2]
  | [], p => rfl
  | q :: ps, p => by simp [gcells, gcells_snoc ps p]
theorem gcells_set : ∀ (ps : List (ByteArray × Value)) (i : Nat) (h : i < ps.length) (v : Value), (gcells ps).set (i * 2 + 1) v = gcells (ps.set i (ps[i].1, v))
  | p :: ps, 0, h, v => rfl
  | p :: ps, i + 1, h, v => by
    have := gcells_set ps i (by simpa using h) v
    rw [show (i + 1) * 2 + 1 = (i * 2 + 1) + 1 + 1 by omega]
    simp only [gcells, List.set_cons_succ, this, List.getElem_cons_succ]
theorem gcells_one : ∀ (ps : List (ByteArray × Value)), (∀ p ∈ ps, p.2.oneCell' = true) → ∀ u ∈ gcells ps, u.oneCell' = true
  | [], _, u, hu => by simp [gcells] at hu
  | p :: ps, h, u, hu => by
    simp only [gcells, List.mem_cons] at hu
    rcases hu with rfl | rfl | hu
    · rfl
    · exact h p (by simp)
    · exact gcells_one ps (fun q hq => h q (by simp [hq])) u hu
/-- Groups in a row of their own, the fields of each in a row of its own. -/
structure GrpAt (w0 : World) (base : Nat) (w : World) (v : Value) (ps : List (ByteArray × Value)) (f : List (Hd × Sels)) : Prop where
  own : w.ownsRow base 193 2 v ps.length (gcells ps)
  each : ∀ i (h : i < ps.length), FOwn w0 base 115 w ps[i].2 (ofK ps[i].1.toList f)
  apart : ∀ i j (hi : i < ps.length) (hj : j < ps.length), i ≠ j → ∀ g, ps[i].2.ownBlock = some g → ps[j].2.ownBlock ≠ some g
theorem GrpAt.start (w0 : World) (base : Nat) (w : World) : GrpAt w0 base w (.slice none 0 0) [] [] := ⟨⟨rfl, .inl ⟨rfl, rfl⟩⟩, fun i h => absurd h (by simp), fun i j h => absurd h (by simp)⟩
theorem GrpAt.lt {w0 w : World} {base : Nat} {v : Value} {ps : List (ByteArray × Value)} {f : List (Hd × Sels)} (h : GrpAt w0 base w v ps f) : ∀ g, v.ownBlock = some g → base ≤ g ∧ g < w.heap.size := World.ownsRow.lt h.own
theorem GrpAt.keep {w0 w w' : World} {base : Nat} {v : Value} {ps : List (ByteArray × Value)} {f : List (Hd × Sels)} (h : GrpAt w0 base w v ps f) (hk : ∀ g, base ≤ g → g < w.heap.size → w'.heap[g]? = w.heap[g]?) : GrpAt w0 base w' v ps f :=
  ⟨owns_sameV h.own fun g hg => hk g (h.lt g hg).1 (h.lt g hg).2, fun i hi => (h.each i hi).keep fun g hg => hk g ((h.each i hi).lt g hg).1 ((h.each i hi).lt g hg).2, h.apart⟩
theorem GrpAt.up {w0 w w' : World} {base : Nat} {v : Value} {ps : List (ByteArray × Value)} {f : List (Hd × Sels)} (h : GrpAt w0 base w v ps f) (hb : Below w.heap.size w w') : GrpAt w0 base w' v ps f := h.keep fun g _ hg => hb.block g hg
/-- The row of groups is no row of fields. -/
theorem GrpAt.not_in {w0 w : World} {base : Nat} {v : Value} {ps : List (ByteArray × Value)} {f : List (Hd × Sels)} (h : GrpAt w0 base w v ps f) {g : Nat} (hg : v.ownBlock = some g) {i : Nat} (hi : i < ps.length) : ps[i].2.ownBlock ≠ some g := by
  intro he
  obtain ⟨vs, ho, _⟩ := h.each i hi
  rcases h.own.2 with ⟨rfl, _⟩ | ⟨g1, c1, u1, rfl, _, h1, _⟩
  · simp [Value.ownBlock] at hg
  · rcases ho.2 with ⟨e2, _⟩ | ⟨g2, c2, u2, e2, _, h2, _⟩
    · rw [e2] at he; simp [Value.ownBlock] at he
    · rw [e2] at he
      simp only [Value.ownBlock, Option.some.injEq] at hg he
      subst hg
      subst he
      rw [h1] at h2; simp at h2
/-- A group more, with no field yet. -/
theorem GrpAt.push {w0 w w' : World} {base : Nat} {v v' : Value} {ps : List (ByteArray × Value)} {f : List (Hd × Sels)} (h : GrpAt w0 base w v ps f) {key : ByteArray} (hf : ofK key.toList f = []) (hg : w.grownBy w' v.ownBlock) (ho : w'.ownsRow base 193 2 v' (ps.length + 1) (gcells ps ++ [.string key, .slice none 0 0])) : GrpAt w0 base w' v' (ps ++ [(key, .slice none 0 0)]) f := by
  have hi0 : ∀ i (hi : i < (ps ++ [(key, Value.slice none 0 0)]).length), (∃ h' : i < ps.length, (ps ++ [(key, Value.slice none 0 0)])[i] = ps[i]) ∨ (ps ++ [(key, Value.slice none 0 0)])[i] = (key, Value.slice none 0 0) := fun i hi => by
    by_cases h' : i < ps.length
    · exact .inl ⟨h', List.getElem_append_left h'⟩
    · refine .inr ?_
      have hi' : i = ps.length := by simp at hi; omega
      subst hi'
      rw [List.getElem_append_right (Nat.le_refl _)]; simp
  refine ⟨?_, fun i hi => ?_, fun i j hi hj hne g hg1 => ?_⟩
  · rw [gcells_snoc, List.length_append]; exact ho
  · rcases hi0 i hi with ⟨h', e⟩ | e
    · rw [e]
      exact (h.each i h').keep fun g hg' => hg.block g ((h.each i h').lt g hg').2 fun e' => h.not_in e'.symm h' hg'
    · rw [e]
      show FOwn _ _ _ _ (.slice none 0 0) (ofK key.toList f)
      rw [hf]; exact FOwn.none _ _ _ _
  · rcases hi0 i hi with ⟨h', e⟩ | e
    · rcases hi0 j hj with ⟨h'', e'⟩ | e'
      · rw [e] at hg1
        rw [e']
        exact h.apart i j h' h'' hne g hg1
      · rw [e']; simp [Value.ownBlock]
    · rw [e] at hg1; simp [Value.ownBlock] at hg1
/-- A field more in one of the groups. -/
theorem GrpAt.add {w0 w w8 w9 : World} {base : Nat} {v s8 : Value} {ps : List (ByteArray × Value)} {f : List (Hd × Sels)} {x : Hd × Sels} (h : GrpAt w0 base w v ps f) {i : Nat} (hi : i < ps.length) (hg : w.grownBy w8 ps[i].2.ownBlock) (ho : FOwn w0 base 115 w8 s8 (ofK ps[i].1.toList f ++ [x])) (hat : s8.ownBlock = ps[i].2.ownBlock ∨ ∃ q, s8.ownBlock = some q ∧ w.heap.size ≤ q)
    {g0 : Nat} (hg0 : v.ownBlock = some g0) (ho9 : w9.ownsRow base 193 2 v ps.length ((gcells ps).set (i * 2 + 1) s8)) (hk9 : ∀ g, g ≠ g0 → w9.heap[g]? = w8.heap[g]?) (hx : kyL x = ps[i].1.toList) (hne : ∀ j (hj : j < ps.length), j ≠ i → ps[j].1.toList ≠ ps[i].1.toList) : GrpAt w0 base w9 v (ps.set i (ps[i].1, s8)) (f ++ [x]) := by
  have hl0 := (h.lt g0 hg0).2
  have hs8 : ∀ g, s8.ownBlock = some g → g ≠ g0 := fun g hg1 e => by
    subst e
    rcases hat with h1 | ⟨q, h1, h2⟩
    · rw [hg1] at h1; exact h.not_in hg0 hi h1.symm
    · rw [hg1] at h1; simp only [Option.some.injEq] at h1; omega
  refine ⟨?_, fun j hj => ?_, fun j k hj hk hjk g hg1 => ?_⟩
  · rw [List.length_set, ← gcells_set ps i hi]; exact ho9
  · have hj' : j < ps.length := by simpa using hj
    by_cases e : j = i
    · subst e
      rw [List.getElem_set_self]
      show FOwn _ _ _ _ s8 (ofK ps[j].1.toList (f ++ [x]))
      rw [ofK_snoc, if_pos hx]
      exact ho.keep fun g hg1 => hk9 g (hs8 g hg1)
    · rw [List.getElem_set_ne (fun e' => e e'.symm)]
      rw [ofK_snoc, if_neg (fun e' => hne j hj' e (by rw [← e', hx]))]
      exact (h.each j hj').keep fun g hg1 => (hk9 g (fun e' => h.not_in hg0 hj' (by rw [hg1, e']))).trans (hg.block g ((h.each j hj').lt g hg1).2 fun e' => h.apart i j hi hj' (fun e'' => e e''.symm) g e'.symm hg1)
  · have hj' : j < ps.length := by simpa using hj
    have hk' : k < ps.length := by simpa using hk
    by_cases e : j = i
    · subst e
      rw [List.getElem_set_self] at hg1
      rw [List.getElem_set_ne hjk]
      intro hg2
      rcases hat with h1 | ⟨q, h1, h3⟩
      · exact h.apart j k hj' hk' hjk g (h1.symm.trans hg1) hg2
      · have := ((h.each k hk').lt g hg2).2
        have h2 : some g = some q := hg1.symm.trans h1
        simp only [Option.some.injEq] at h2; omega
    · rw [List.getElem_set_ne (fun e' => e e'.symm)] at hg1
      by_cases e2 : k = i
      · subst e2
        rw [List.getElem_set_self]
        intro hg2
        have hg2 : s8.ownBlock = some g := hg2
        rcases hat with h1 | ⟨q, h1, h3⟩
        · exact h.apart j k hj' hk' hjk g hg1 (h1.symm.trans hg2)
        · have := ((h.each j hj').lt g hg1).2
          have h2 : some g = some q := hg2.symm.trans h1
          simp only [Option.some.injEq] at h2; omega
      · rw [List.getElem_set_ne (fun e' => e2 e'.symm)]
        exact h.apart j k hj' hk' hjk g hg1
end Go.Proofs.YtkjndghkimnjeaaGreat
