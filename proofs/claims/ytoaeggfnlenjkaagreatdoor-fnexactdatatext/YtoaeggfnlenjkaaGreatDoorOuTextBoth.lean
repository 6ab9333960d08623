/- OutText, on both sides. -/
import Derived.Test.YtoaeggfnlenjkaaGreatDoorOuPairs
import Derived.Test.YtoaeggfnlenjkaaGreatDoorOuTakes
namespace Go.Proofs.YtoaeggfnlenjkaaGreatDoor.G
open Go.ChangeShapes Go.WideShapes Go.ChangeAt Go.RowKit
set_option linter.unusedVariables false

theorem ta_int_int (n : Int) (w : World) : (Instr.typeAssert (.iface 3 (.int .i64 n)) 20 3 true).run Tryz.prog w = .ok (.tuple #[.int .i64 n, .bool true]) w := by kernel_rfl
theorem ta_str_int (s : ByteArray) (w : World) : (Instr.typeAssert (.iface 9 (.string s)) 20 3 true).run Tryz.prog w = .ok (.tuple #[.int .i64 0, .bool false]) w := by kernel_rfl
theorem ta_str_str (s : ByteArray) (w : World) : (Instr.typeAssert (.iface 9 (.string s)) 20 9 true).run Tryz.prog w = .ok (.tuple #[.string s, .bool true]) w := by kernel_rfl
theorem ta_lis_int (a : Option Addr) (l c : Nat) (w : World) : (Instr.typeAssert (.iface 24 (.slice a l c)) 20 3 true).run Tryz.prog w = .ok (.tuple #[.int .i64 0, .bool false]) w := by kernel_rfl
theorem ta_lis_str (a : Option Addr) (l c : Nat) (w : World) : (Instr.typeAssert (.iface 24 (.slice a l c)) 20 9 true).run Tryz.prog w = .ok (.tuple #[.string ⟨#[]⟩, .bool false]) w := by kernel_rfl
theorem ta_lis_lis (a : Option Addr) (l c : Nat) (w : World) : (Instr.typeAssert (.iface 24 (.slice a l c)) 20 24 true).run Tryz.prog w = .ok (.tuple #[.slice a l c, .bool true]) w := by kernel_rfl
theorem ta_obj_int (a b : Option Addr) (l c m d : Nat) (w : World) : (Instr.typeAssert (.iface 109 (.agg #[.slice a l c, .slice b m d])) 20 3 true).run Tryz.prog w = .ok (.tuple #[.int .i64 0, .bool false]) w := by kernel_rfl
theorem ta_obj_str (a b : Option Addr) (l c m d : Nat) (w : World) : (Instr.typeAssert (.iface 109 (.agg #[.slice a l c, .slice b m d])) 20 9 true).run Tryz.prog w = .ok (.tuple #[.string ⟨#[]⟩, .bool false]) w := by kernel_rfl
theorem ta_obj_lis (a b : Option Addr) (l c m d : Nat) (w : World) : (Instr.typeAssert (.iface 109 (.agg #[.slice a l c, .slice b m d])) 20 24 true).run Tryz.prog w = .ok (.tuple #[.slice none 0 0, .bool false]) w := by kernel_rfl
theorem ta_obj_obj (a b : Option Addr) (l c m d : Nat) (w : World) : (Instr.typeAssert (.iface 109 (.agg #[.slice a l c, .slice b m d])) 20 109 true).run Tryz.prog w = .ok (.tuple #[.agg #[.slice a l c, .slice b m d], .bool true]) w := by kernel_rfl
theorem ta_nil_int (w : World) : (Instr.typeAssert .nilIface 20 3 true).run Tryz.prog w = .ok (.tuple #[.int .i64 0, .bool false]) w := by kernel_rfl
theorem ta_nil_str (w : World) : (Instr.typeAssert .nilIface 20 9 true).run Tryz.prog w = .ok (.tuple #[.string ⟨#[]⟩, .bool false]) w := by kernel_rfl
theorem ta_nil_lis (w : World) : (Instr.typeAssert .nilIface 20 24 true).run Tryz.prog w = .ok (.tuple #[.slice none 0 0, .bool false]) w := by kernel_rfl
theorem ta_nil_obj (w : World) : (Instr.typeAssert .nilIface 20 109 true).run Tryz.prog w = .ok (.tuple #[.agg #[.slice none 0 0, .slice none 0 0], .bool false]) w := by kernel_rfl
theorem outT_list {h : Oh} {sub : Ous} (k3 : h.k = 3) : outT h sub = lisT (wordsO false [] sub) := by
  have e : ∀ (l : Ous) (ks ks' : List ByteArray), wordsO false ks l = wordsO false ks' l := by
    intro l
    induction l with
    | nil => intro _ _; rfl
    | cons h s r _ ih => intro ks ks'; rw [wordsO, wordsO, ih ks.tail ks'.tail]; rfl
  unfold outT valT lisT endsA endsB
  rw [k3]
  simp only [show ¬ (3 : Int) = 0 by decide, show ¬ (3 : Int) = 1 by decide, show ¬ (3 : Int) = 2 by decide, show ¬ (3 : Int) = 4 by decide, if_false]
  rw [show ((3 : Int) == 4) = false from rfl, e sub h.keys []]
theorem outT_obj {h : Oh} {sub : Ous} (k4 : h.k = 4) : outT h sub = objT (wordsO true h.keys sub) := by
  unfold outT valT objT endsA endsB
  rw [k4]
  simp only [show ¬ (4 : Int) = 0 by decide, show ¬ (4 : Int) = 1 by decide, show ¬ (4 : Int) = 2 by decide, if_false, if_true]
  rfl
theorem head_obj {h : Oh} {sub : Ous} (hh : headB h sub = true) (k4 : h.k = 4) : h.keys.length = sub.len := by
  unfold headB at hh
  rw [k4] at hh
  simp at hh
  exact hh.1.2
set_option maxHeartbeats 8000000 in
set_option maxRecDepth 20000 in
theorem impl_textI : ∀ d : Nat, d ≤ 20 → TextI d := by
  intro d
  induction d with
  | zero => intro _ h sub a1 a2 c1 c2 w _ _ _ ho; rw [outB_zero] at ho; cases ho
  | succ d ih =>
    intro hd h sub a1 a2 c1 c2 w r1 r2 hc ho hp
    obtain ⟨_, hh, hok, hsz⟩ := outB_all ho
    rw [Nat.add_sub_cancel] at hok
    obtain ⟨V, hV⟩ : ∃ V, V = w.alloc (.cells #[.int .i64 h.k, .int .i64 h.n, .string h.t, .slice a1 h.keys.length c1, .slice a2 sub.len c2] 26) := ⟨_, rfl⟩
    have B0 : Below w.heap.size w V := by rw [hV]; exact (Below.refl _ _).alloc (Nat.le_refl _) _
    have c0 : V.heap[w.heap.size]? = some (.cells #[.int .i64 h.k, .int .i64 h.n, .string h.t, .slice a1 h.keys.length c1, .slice a2 sub.len c2] 26 (0, 0)) := by rw [hV]; exact heap_alloc_new _ _
    have x0 := fun o => row_cell c0 o
    have KV : Hid (∀ W, Below V.heap.size V W → KeRow 0 W.heap.size W a1 h.keys ∧ OuRow 0 W.heap.size W a2 sub ∧ Pow W ∧ Below w.heap.size w W) := fun W hW =>
      have hw := B0.trans (hW.mono B0.size)
      ⟨KeRow.up r1 hw, OuRow.up r2 hw, hp.up hw, hw⟩
    have IH : Hid (TextI d) := ih (by omega)
    have HH : Hid (headB h sub = true) := hh
    have HOK : Hid (okO d sub = true) := hok
    have hsz2 : sub.size ≤ 4000 := by omega
    clear r1 r2 ih c0 B0 ho hh hok hp
    go_enter Tryz.func35, Tryz.ntmps35
    go_upto_region 1 with fail
    rw [← hV]
    clear hV
    go_wp2_with fail
    refine (impl_held h sub a1 a2 c1 c2 _).mono ?_
    rintro e w1 ⟨rfl, hb1⟩
    obtain ⟨k1, k2, k3, k4⟩ := KV.out _ hb1
    have HK1 : Hid _ := k1
    have HK2 : Hid _ := k2
    have HK3 : Hid _ := k3
    have HBW : Hid _ := k4
    clear hb1 k1 k2 k3 k4 x0 KV
    by_cases k1 : h.k = 1
    · have HT : Hid (outT h sub = ⟨(Lib.itoa h.n).toArray⟩) := by unfold Hid outT valT; rw [if_neg (by omega), if_pos k1]
      have hn1 : -2147483648 ≤ h.n ∧ h.n ≤ 2147483647 := by
        have := HH.out
        unfold headB at this
        rw [if_neg (by omega), if_pos k1] at this
        simp only [Bool.and_eq_true] at this
        simpa [intO] using this.1.2
      have HV : Hid (heldV h sub a1 a2 c1 c2 = .iface 3 (.int .i64 h.n)) := by unfold Hid heldV; rw [if_pos k1]
      rw [HV.out]
      clear k1 HV
      have t1 := ta_int_int h.n w1
      go_wp2_with fail
      refine (itoa_any h.n _ (by omega) (by omega) HK3.out).mono ?_
      rintro e w2 ⟨rfl, hb2⟩
      have HB2 : Hid (Below w.heap.size w w2) := HBW.out.trans (hb2.mono HBW.out.size)
      clear hb2
      go_wp2_with fail
      go_ret
      exact ⟨by rw [HT.out]; rfl, HB2.out⟩
    by_cases k2 : h.k = 2
    · have HT : Hid (outT h sub = qd h.t) := by unfold Hid outT valT qd; rw [if_neg (by omega), if_neg k1, if_pos k2]
      have hn : h.t.size ≤ 40 := by
        have := HH.out
        unfold headB at this
        rw [if_neg (by omega), if_neg k1, if_pos k2] at this
        simp only [Bool.and_eq_true] at this
        exact name_size this.2
      have HV : Hid (heldV h sub a1 a2 c1 c2 = .iface 9 (.string h.t)) := by unfold Hid heldV; rw [if_neg k1, if_pos k2]
      rw [HV.out]
      clear k1 k2 HV
      have t1 := ta_str_int h.t w1
      have t2 := ta_str_str h.t w1
      go_wp2_with fail
      refine (impl_quoted h.t _ (by omega)).mono ?_
      rintro e w2 ⟨rfl, hw2⟩
      rw [hw2]
      clear hw2
      go_wp2_with fail
      go_ret
      exact ⟨by rw [HT.out]; rfl, HBW.out⟩
    by_cases k3 : h.k = 3
    · have HT : Hid (outT h sub = lisT (wordsO false [] sub)) := outT_list k3
      have HV : Hid (heldV h sub a1 a2 c1 c2 = .iface 24 (.slice a2 sub.len c2)) := by unfold Hid heldV; rw [if_neg k1, if_neg k2, if_pos k3]
      have HZ : Hid (sumW (wordsO false [] sub) ≤ 480000) := by
        have := words_size sub d false [] HOK.out (fun e => by cases e)
        unfold Hid; omega
      have HWL : Hid ((wordsO false [] sub).length = sub.len) := words_len _ _ _
      rw [HV.out]
      clear k1 k2 k3 HV
      have t1 := ta_lis_int a2 sub.len c2 w1
      have t2 := ta_lis_str a2 sub.len c2 w1
      have t3 := ta_lis_lis a2 sub.len c2 w1
      go_wp2_with fail
      refine (impl_texts d IH.out sub a2 c2 _ HK2.out HOK.out hsz2 HK3.out).mono ?_
      rintro e w2 ⟨a', rfl, hr2, hb2⟩
      have HB2 : Hid (Below w.heap.size w w2) := HBW.out.trans (hb2.mono HBW.out.size)
      have HQ := fun (W : World) (hr : KeRow 0 W.heap.size W a' (wordsO false [] sub)) => impl_list a' sub.len (wordsO false [] sub) W hr (by rw [HWL.out]; omega) (by have := HZ.out; omega)
      rw [HWL.out] at HQ
      have HQ2 : Hid _ := HQ
      have HR2 : Hid _ := hr2
      clear hb2 hr2 HQ
      go_wp2_with fail
      refine Calls.mono (HQ2.out _ HR2.out) ?_
      rintro e w3 ⟨rfl, hb3⟩
      have HB3 : Hid (Below w.heap.size w w3) := HB2.out.trans (hb3.mono HB2.out.size)
      clear hb3
      go_wp2_with fail
      go_ret
      exact ⟨by rw [HT.out]; rfl, HB3.out⟩
    by_cases k4 : h.k = 4
    · have HT : Hid (outT h sub = objT (wordsO true h.keys sub)) := outT_obj k4
      have HV : Hid (heldV h sub a1 a2 c1 c2 = .iface 109 (.agg #[.slice a1 h.keys.length c1, .slice a2 sub.len c2])) := by unfold Hid heldV; rw [if_neg k1, if_neg k2, if_neg k3, if_pos k4]
      have HKS : Hid (∀ k ∈ h.keys, k.size ≤ 40) := head_keys HH.out (by simp [k4])
      have HKL : Hid (h.keys.length = sub.len) := head_obj HH.out k4
      have HZ : Hid (sumW (wordsO true h.keys sub) ≤ 480000) := by
        have := words_size sub d true h.keys HOK.out (fun _ => HKS.out)
        unfold Hid; omega
      have HWL : Hid ((wordsO true h.keys sub).length = sub.len) := words_len _ _ _
      rw [HV.out]
      clear k1 k2 k3 k4 HV
      have t1 := ta_obj_int a1 a2 h.keys.length c1 sub.len c2 w1
      have t2 := ta_obj_str a1 a2 h.keys.length c1 sub.len c2 w1
      have t3 := ta_obj_lis a1 a2 h.keys.length c1 sub.len c2 w1
      have t4 := ta_obj_obj a1 a2 h.keys.length c1 sub.len c2 w1
      go_wp2_with fail
      refine (impl_pairs d IH.out sub h.keys a1 a2 c1 c2 _ (KeRow.up HK1.out ?bb) (OuRow.up HK2.out ?bb) HKL.out HKS.out HOK.out hsz2 (Pow.up HK3.out ?bb)).mono ?_
      case bb => exact (Below.refl _ _).alloc (Nat.le_refl _) _
      rintro e w2 ⟨a', rfl, hr2, hb2⟩
      have HB2 : Hid (Below w.heap.size w w2) := HBW.out.trans ((below_one hb2).mono HBW.out.size)
      have HQ := fun (W : World) (hr : KeRow 0 W.heap.size W a' (wordsO true h.keys sub)) => impl_object a' sub.len (wordsO true h.keys sub) W hr (by rw [HWL.out]; omega) (by have := HZ.out; omega)
      rw [HWL.out] at HQ
      have HQ2 : Hid _ := HQ
      have HR2 : Hid _ := hr2
      clear hb2 hr2 HQ
      go_wp2_with fail
      refine Calls.mono (HQ2.out _ HR2.out) ?_
      rintro e w3 ⟨rfl, hb3⟩
      have HB3 : Hid (Below w.heap.size w w3) := HB2.out.trans (hb3.mono HB2.out.size)
      clear hb3
      go_wp2_with fail
      go_ret
      exact ⟨by rw [HT.out]; rfl, HB3.out⟩
    have HT : Hid (outT h sub = ⟨#[110, 117, 108, 108]⟩) := by
      have := HH.out
      unfold headB at this
      unfold Hid outT valT
      by_cases k0 : h.k = 0
      · rw [if_pos k0]
      · rw [if_neg k0, if_neg k1, if_neg k2, if_neg k3, if_neg k4] at this; cases this
    have HV : Hid (heldV h sub a1 a2 c1 c2 = .nilIface) := by unfold Hid heldV; rw [if_neg k1, if_neg k2, if_neg k3, if_neg k4]
    rw [HV.out]
    clear k1 k2 k3 k4 HV
    have t1 := ta_nil_int w1
    have t2 := ta_nil_str w1
    have t3 := ta_nil_lis w1
    have t4 := ta_nil_obj w1
    go_wp2_with fail
    go_ret
    exact ⟨by rw [HT.out]; rfl, HBW.out⟩
/-- What OutText tells. -/
def outE (h : Oh) (sub : Ous) : Ending := if outB 20 h sub = true then .returned (.tuple #[.string (outT h sub), .int .i64 0]) else .returned (.tuple #[.string ⟨#[]⟩, .int .i64 1])
theorem clone_strG (s : ByteArray) (w : World) (hs : s.size ≤ 1048576) :
    Calls Tryz.prog 34 #[.string s] w fun e w' => e = .returned (.string s) ∧ Below w.heap.size w w' := by
  go_enter Tryz.func34, Tryz.ntmps34
  go_wp2_with fail
  refine (Tryz.stringslite_Clone s _ (by omega)).mono ?_
  rintro e w1 ⟨rfl, hb⟩
  go_wp2_with fail
  go_ret
  exact ⟨rfl, hb⟩
set_option maxHeartbeats 2000000 in
theorem spec_outText (h : Oh) (sub : Ous) (a1 a2 : Option Addr) (c1 c2 : Nat) (w : World) (r1 : KeRow 0 w.heap.size w a1 h.keys) (hc : h.keys.length ≤ c1) (r2 : OuRow 0 w.heap.size w a2 sub) (hb : OhBd 1048576 h) (hl : sub.len ≤ 1048576) (hs : OusBd 1048576 sub) :
    Calls Tryz.prog 8 #[.agg #[.int .i64 h.k, .int .i64 h.n, .string h.t, .slice a1 h.keys.length c1, .slice a2 sub.len c2]] w fun e w' => e = outE h sub ∧ Below w.heap.size w w' := by
  obtain ⟨V, hV⟩ : ∃ V, V = w.alloc (.cells #[.int .i64 h.k, .int .i64 h.n, .string h.t, .slice a1 h.keys.length c1, .slice a2 sub.len c2] 26) := ⟨_, rfl⟩
  have B0 : Below w.heap.size w V := by rw [hV]; exact (Below.refl _ _).alloc (Nat.le_refl _) _
  have c0 : V.heap[w.heap.size]? = some (.cells #[.int .i64 h.k, .int .i64 h.n, .string h.t, .slice a1 h.keys.length c1, .slice a2 sub.len c2] 26 (0, 0)) := by rw [hV]; exact heap_alloc_new _ _
  have x0 := fun o => row_cell c0 o
  have zV := (Array.getElem?_eq_some_iff.1 c0).1
  have KV : Hid (∀ W, Below V.heap.size V W → KeRow 0 W.heap.size W a1 h.keys ∧ OuRow 0 W.heap.size W a2 sub ∧ Below w.heap.size w W ∧ W.heap[w.heap.size]? = some (.cells #[.int .i64 h.k, .int .i64 h.n, .string h.t, .slice a1 h.keys.length c1, .slice a2 sub.len c2] 26 (0, 0))) := fun W hW =>
    have hw := B0.trans (hW.mono B0.size)
    ⟨KeRow.up r1 hw, OuRow.up r2 hw, hw, (hW.block _ zV).trans c0⟩
  have HB : Hid _ := hb
  have HS : Hid _ := hs
  clear r1 r2 hb hs c0 B0
  go_enter Tryz.func8, Tryz.ntmps8
  go_upto_region 1 with fail
  rw [← hV]
  clear hV
  go_wp2_with fail
  refine (spec_outOK h sub a1 a2 c1 c2 _ (KV.out _ (Below.refl _ _)).1 hc (KV.out _ (Below.refl _ _)).2.1 HB.out hl HS.out).mono ?_
  rintro e w1 ⟨rfl, hb1⟩
  obtain ⟨q1, q2, q3, q4⟩ := KV.out _ hb1
  have HQ1 : Hid _ := q1
  have HQ2 : Hid _ := q2
  have HQ3 : Hid _ := q3
  have x1 := fun o => row_cell q4 o
  clear hb1 q1 q2 q3 q4 x0
  cases ho : outB 20 h sub
  · have HF : Hid (Ending.returned (.tuple #[.string ⟨#[]⟩, .int .i64 1]) = outE h sub) := by rw [Hid, outE, ho]; rfl
    go_wp2_with fail
    go_ret2
    exact ⟨HF.out, HQ3.out⟩
  have HF : Hid (Ending.returned (.tuple #[.string (outT h sub), .int .i64 0]) = outE h sub) := by rw [Hid, outE, ho]; rfl
  have HO : Hid _ := ho
  clear ho
  go_wp2_with fail
  refine (spec_text 20 (by omega) h sub a1 a2 c1 c2 _ HQ1.out HQ2.out HO.out).mono ?_
  rintro e w2 ⟨rfl, hb2⟩
  have HB2 : Hid (Below w.heap.size w w2) := HQ3.out.trans (hb2.mono HQ3.out.size)
  clear hb2
  go_wp2_with fail
  go_ret2
  exact ⟨HF.out, HB2.out⟩
set_option maxHeartbeats 2000000 in
theorem impl_outText (h : Oh) (sub : Ous) (a1 a2 : Option Addr) (c1 c2 : Nat) (w : World) (r1 : KeRow 0 w.heap.size w a1 h.keys) (hc : h.keys.length ≤ c1) (r2 : OuRow 0 w.heap.size w a2 sub) (hb : OhBd 1048576 h) (hl : sub.len ≤ 1048576) (hs : OusBd 1048576 sub) (hp : Pow w) :
    Calls Tryz.prog 7 #[.agg #[.int .i64 h.k, .int .i64 h.n, .string h.t, .slice a1 h.keys.length c1, .slice a2 sub.len c2]] w fun e w' => e = outE h sub ∧ Below w.heap.size w w' := by
  obtain ⟨V, hV⟩ : ∃ V, V = w.alloc (.cells #[.int .i64 h.k, .int .i64 h.n, .string h.t, .slice a1 h.keys.length c1, .slice a2 sub.len c2] 26) := ⟨_, rfl⟩
  have B0 : Below w.heap.size w V := by rw [hV]; exact (Below.refl _ _).alloc (Nat.le_refl _) _
  have c0 : V.heap[w.heap.size]? = some (.cells #[.int .i64 h.k, .int .i64 h.n, .string h.t, .slice a1 h.keys.length c1, .slice a2 sub.len c2] 26 (0, 0)) := by rw [hV]; exact heap_alloc_new _ _
  have x0 := fun o => row_cell c0 o
  have zV := (Array.getElem?_eq_some_iff.1 c0).1
  have KV : Hid (∀ W, Below V.heap.size V W → KeRow 0 W.heap.size W a1 h.keys ∧ OuRow 0 W.heap.size W a2 sub ∧ Pow W ∧ Below w.heap.size w W ∧ W.heap[w.heap.size]? = some (.cells #[.int .i64 h.k, .int .i64 h.n, .string h.t, .slice a1 h.keys.length c1, .slice a2 sub.len c2] 26 (0, 0))) := fun W hW =>
    have hw := B0.trans (hW.mono B0.size)
    ⟨KeRow.up r1 hw, OuRow.up r2 hw, hp.up hw, hw, (hW.block _ zV).trans c0⟩
  have HB : Hid _ := hb
  have HS : Hid _ := hs
  clear r1 r2 hb hs c0 B0 hp
  go_enter Tryz.func7, Tryz.ntmps7
  go_upto_region 1 with fail
  rw [← hV]
  clear hV
  go_wp2_with fail
  refine (impl_outOK h sub a1 a2 c1 c2 _ (KV.out _ (Below.refl _ _)).1 hc (KV.out _ (Below.refl _ _)).2.1 HB.out hl HS.out).mono ?_
  rintro e w1 ⟨rfl, hb1⟩
  obtain ⟨q1, q2, qp, q3, q4⟩ := KV.out _ hb1
  have HQ1 : Hid _ := q1
  have HQ2 : Hid _ := q2
  have HQP : Hid _ := qp
  have HQ3 : Hid _ := q3
  have x1 := fun o => row_cell q4 o
  clear hb1 q1 q2 q3 q4 qp x0
  cases ho : outB 20 h sub
  · have HF : Hid (Ending.returned (.tuple #[.string ⟨#[]⟩, .int .i64 1]) = outE h sub) := by rw [Hid, outE, ho]; rfl
    go_wp2_with fail
    go_ret2
    exact ⟨HF.out, HQ3.out⟩
  have HF : Hid (Ending.returned (.tuple #[.string (outT h sub), .int .i64 0]) = outE h sub) := by rw [Hid, outE, ho]; rfl
  have HO : Hid _ := ho
  have HTZ : Hid ((outT h sub).size ≤ 480042) := outT_size ho
  clear ho
  go_wp2_with fail
  refine (impl_textI 20 (by omega) h sub a1 a2 c1 c2 _ HQ1.out HQ2.out hc HO.out HQP.out).mono ?_
  rintro e w2 ⟨rfl, hb2⟩
  have HB2 : Hid (Below w.heap.size w w2) := HQ3.out.trans (hb2.mono HQ3.out.size)
  clear hb2 x1
  go_wp2_with fail
  refine (clone_strG _ _ (by have := HTZ.out; omega)).mono ?_
  rintro e w3 ⟨rfl, hb3⟩
  have HB3 : Hid (Below w.heap.size w w3) := HB2.out.trans (hb3.mono HB2.out.size)
  clear hb3
  go_wp2_with fail
  go_ret2
  exact ⟨HF.out, HB3.out⟩
end Go.Proofs.YtoaeggfnlenjkaaGreatDoor.G
