/- The draws of answers' values: one of some texts. -/
import Derived.Test.YtoaeggfnlenjkaaGreatDoorOuCj
import Derived.Deep.QuietTactic
import Derived.BigQuiet
import Derived.BigRegion
namespace Go.Proofs.YtoaeggfnlenjkaaGreatDoor.G
open Go.ChangeShapes Go.WideShapes Go.ChangeAt Go.RowKit
set_option linter.unusedVariables false

theorem app_str (x : List ByteArray) (z : ByteArray) (v : Value) (base h : Nat) (W : World) (ho : W.ownsRow base 9 1 v x.length (kV x)) (hu : W.heap[h]? = some (.cells #[.string z] 9 (0, 0))) (hk : x.length ≤ 1048576) (hb : base ≤ W.heap.size) :
    ∃ g cap W', (Builtin.append_ #[23, 23] 23 #[v, .slice (some ⟨h, 0, none⟩) 1 1]).run Tryz.prog W = .ok (.slice (some ⟨g, 0, none⟩) (x.length + 1) cap) W' ∧ W'.ownsRow base 9 1 (.slice (some ⟨g, 0, none⟩) (x.length + 1) cap) (x.length + 1) (kV (x ++ [z])) ∧ W.grownBy W' v.ownBlock ∧ (v.ownBlock = some g ∨ g = W.heap.size) ∧ g < W'.heap.size := by
  obtain ⟨i, hi, hz, hsz, hby⟩ := info_str
  have e : kV (x ++ [z]) = kV x ++ [.string z] := by simp [kV]
  rw [e]
  exact run_append_lies (P := Tryz.prog) W 23 23 base 9 i _ 1 16 Tryz.underlying23 hi hz hsz hby rfl (by decide) v x.length (kV x) ho ⟨h, 0, none⟩ 1 1 [.string z] rfl (fun j y hx => by
    have hj : j = 0 := by have := (List.getElem?_eq_some_iff.1 hx).1; simpa using this
    subst hj
    simp only [List.getElem?_cons_zero, Option.some.injEq] at hx
    subst hx
    rw [add_plain]
    exact row_cell hu 0) (fun y hy => by rw [List.mem_singleton.1 hy]; rfl) (by omega) (by unfold maxLen; omega) (by omega) hb W.heap.size rfl
theorem wpList_app_str {P : Program} {ops : Array Oper} {rest : List Oper} {o : Oper} {a : Act} {Q : Exit → Act → World → Prop} {w : World} (hgd : o.guard = none) (s x : Operand) (t : TypeId)
    (ho : o.op = .call { callee := .builtin .append, args := #[s, x], argTypes := #[t, t] }) (sv xv rv : Value) (w' : World) (hs : a.eval s = sv) (hx : a.eval x = xv)
    (hr : (Builtin.append_ #[t, t] o.type #[sv, xv]).run P w = .ok rv w') (h : wpList P ops Q rest (a.put o.dst rv) w') : wpList P ops Q (o :: rest) a w := by
  refine wpList_plain hgd fun K hK => ?_
  unfold Oper.wp execOp
  simp only [ho, resolve, invoke, builtin, Sem.run_bind, Sem.run_pure, Result.andThen_ok, List.map_toArray, List.map_cons, List.map_nil, hs, hx, hr]
  exact hK _ _ h
theorem own_setK {w : World} {base size n : Nat} {e : TypeId} {v : Value} {xs : List Value} (h : w.ownsRow base e size v n xs) {w' : World} (hk : ∀ g, v.ownBlock = some g → w'.heap[g]? = w.heap[g]?) : w'.ownsRow base e size v n xs := by
  refine ⟨h.1, ?_⟩
  rcases h.2 with h0 | ⟨g, cap, cur, rfl, h1, h2, h3⟩
  · exact .inl h0
  · exact .inr ⟨g, cap, cur, rfl, h1, (hk g rfl).trans h2, h3⟩
theorem own_baseK {w : World} {base size n : Nat} {e : TypeId} {v : Value} {xs : List Value} (h : w.ownsRow base e size v n xs) (g : Nat) (hg : v.ownBlock = some g) : base ≤ g := by
  rcases h.2 with ⟨e, _⟩ | ⟨g', cap, cur, e, h1, _⟩
  · subst e; cases hg
  · subst e
    simp only [Value.ownBlock, Option.some.injEq] at hg
    omega
theorem own_ltK {w : World} {base size n : Nat} {e : TypeId} {v : Value} {xs : List Value} (h : w.ownsRow base e size v n xs) (g : Nat) (hg : v.ownBlock = some g) : g < w.heap.size := by
  rcases h.2 with ⟨e, _⟩ | ⟨g', cap, cur, e, h1, h2, _⟩
  · subst e; cases hg
  · subst e
    simp only [Value.ownBlock, Option.some.injEq] at hg
    subst hg
    exact (Array.getElem?_eq_some_iff.1 h2).1
theorem own_belowK {w w' : World} {base size n : Nat} {e : TypeId} {v : Value} {xs : List Value} (h : w.ownsRow base e size v n xs) (hb : Below w.heap.size w w') : w'.ownsRow base e size v n xs :=
  own_setK h (fun g hg => hb.block g (own_ltK h g hg))
theorem Ous.len_size : ∀ l : Ous, l.len ≤ l.size
  | .nil => Nat.le_refl _
  | .cons h sub rest => by have := Ous.len_size rest; simp only [Ous.len, Ous.size]; omega
theorem words_cons (ob : Bool) (ks : List ByteArray) (i : Nat) (h : Oh) (sub rest : Ous) : wordsO ob (ks.drop i) (.cons h sub rest) = keyed ob (ks.getD i ⟨#[]⟩) (outT h sub) :: wordsO ob (ks.drop (i + 1)) rest := by
  rw [wordsO, List.tail_drop, List.headD_eq_head?_getD, List.head?_drop, List.getD_eq_getElem?_getD]; rfl
def TextOK (d : Nat) : Prop := ∀ (h : Oh) (sub : Ous) (a1 a2 : Option Addr) (c1 c2 : Nat) (w : World), KeRow 0 w.heap.size w a1 h.keys → OuRow 0 w.heap.size w a2 sub → outB d h sub = true →
    Calls Tryz.prog 37 #[.agg #[.int .i64 h.k, .int .i64 h.n, .string h.t, .slice a1 h.keys.length c1, .slice a2 sub.len c2]] w fun e w' => e = .returned (.string (outT h sub)) ∧ Below w.heap.size w w'
set_option maxHeartbeats 8000000 in
set_option maxRecDepth 20000 in
theorem spec_text : ∀ d : Nat, d ≤ 20 → TextOK d := by
  intro d
  induction d with
  | zero => intro _ h sub a1 a2 c1 c2 w _ _ ho; rw [outB_zero] at ho; cases ho
  | succ d ih =>
    intro hd h sub a1 a2 c1 c2 w r1 r2 ho
    obtain ⟨_, hh, hok, hsz⟩ := outB_all ho
    rw [Nat.add_sub_cancel] at hok
    obtain ⟨V, hV⟩ : ∃ V, V = w.alloc (.cells #[.int .i64 h.k, .int .i64 h.n, .string h.t, .slice a1 h.keys.length c1, .slice a2 sub.len c2] 26) := ⟨_, rfl⟩
    have B0 : Below w.heap.size w V := by rw [hV]; exact (Below.refl _ _).alloc (Nat.le_refl _) _
    have c0 : V.heap[w.heap.size]? = some (.cells #[.int .i64 h.k, .int .i64 h.n, .string h.t, .slice a1 h.keys.length c1, .slice a2 sub.len c2] 26 (0, 0)) := by rw [hV]; exact heap_alloc_new _ _
    have zV := (Array.getElem?_eq_some_iff.1 c0).1
    have KV : Hid (∀ W, Below V.heap.size V W → W.heap[w.heap.size]? = some (.cells #[.int .i64 h.k, .int .i64 h.n, .string h.t, .slice a1 h.keys.length c1, .slice a2 sub.len c2] 26 (0, 0)) ∧ KeRow 0 W.heap.size W a1 h.keys ∧ OuFrom 0 V.heap.size W a2 0 sub ∧ Below w.heap.size w W) := fun W hW =>
      have hw := B0.trans (hW.mono B0.size)
      ⟨(hW.block _ zV).trans c0, KeRow.up r1 hw, OuFrom.keep (OuRow.up r2 B0).from_ (agree hW (Nat.le_refl _)), hw⟩
    have x0 := fun o => row_cell c0 o
    have IH : Hid (TextOK d) := ih (by omega)
    have HH : Hid (headB h sub = true) := hh
    have HOK : Hid (okO d sub = true) := hok
    have BV : Hid _ := B0
    clear r1 r2 ih c0 B0 ho hh hok
    by_cases k0 : h.k = 0
    · have HT : Hid (outT h sub = ⟨#[110, 117, 108, 108]⟩) := by unfold Hid outT valT; rw [if_pos k0]
      rw [k0] at x0 hV ⊢
      clear k0 KV
      go_enter Tryz.func37, Tryz.ntmps37
      go_upto_region 1 with fail
      rw [← hV]
      clear hV
      go_wp2_with fail
      go_ret
      exact ⟨by rw [HT.out]; rfl, BV.out⟩
    by_cases k1 : h.k = 1
    · have HT : Hid (outT h sub = ⟨(Lib.itoa h.n).toArray⟩) := by unfold Hid outT valT; rw [if_neg k0, if_pos k1]
      have hn : intO h.n = true := by
        have := HH.out
        unfold headB at this
        rw [if_neg k0, if_pos k1] at this
        simp only [Bool.and_eq_true] at this
        exact this.1.2
      have hn1 : -2147483648 ≤ h.n ∧ h.n ≤ 2147483647 := by simpa [intO] using hn
      rw [k1] at x0 hV ⊢
      clear hn k1 k0 KV
      go_enter Tryz.func37, Tryz.ntmps37
      go_upto_region 1 with fail
      rw [← hV]
      clear hV
      go_wp2_with fail
      refine (digs_any h.n _ (by omega) (by omega)).mono ?_
      rintro e w1 ⟨rfl, hb1⟩
      have Q : Hid (Below w.heap.size w w1) := BV.out.trans (hb1.mono BV.out.size)
      clear hb1
      go_wp2_with fail
      go_ret
      exact ⟨by rw [HT.out]; rfl, Q.out⟩
    by_cases k2 : h.k = 2
    · have HT : Hid (outT h sub = ⟨#[34]⟩ ++ h.t ++ ⟨#[34]⟩) := by unfold Hid outT valT; rw [if_neg k0, if_neg k1, if_pos k2]
      have hn : h.t.size ≤ 40 := by
        have := HH.out
        unfold headB at this
        rw [if_neg k0, if_neg k1, if_pos k2] at this
        simp only [Bool.and_eq_true] at this
        exact name_size this.2
      rw [k2] at x0 hV ⊢
      clear k0 k1 k2 KV
      have n1 : ¬ (9223372036854775807 < (⟨#[34]⟩ : ByteArray).size + h.t.size) := by have : (⟨#[34]⟩ : ByteArray).size = 1 := rfl; omega
      have n2 : ¬ (9223372036854775807 < ((⟨#[34]⟩ : ByteArray) ++ h.t).size + (⟨#[34]⟩ : ByteArray).size) := by rw [ByteArray.size_append]; have : (⟨#[34]⟩ : ByteArray).size = 1 := rfl; omega
      have n3 : ¬ (9223372036854775807 < 1 + h.t.size) := by omega
      have n4 : ¬ (9223372036854775807 < ((⟨#[34]⟩ : ByteArray) ++ h.t).size + 1) := by rw [ByteArray.size_append]; have : (⟨#[34]⟩ : ByteArray).size = 1 := rfl; omega
      go_enter Tryz.func37, Tryz.ntmps37
      go_upto_region 1 with fail
      rw [← hV]
      clear hV
      go_wp2_with fail
      go_ret
      exact ⟨by rw [HT.out]; rfl, BV.out⟩
    by_cases k3 : h.k = 3
    · have HT : Hid (outT h sub = ⟨#[91]⟩ ++ cj (wordsO false h.keys sub) ++ ⟨#[93]⟩) := by unfold Hid outT valT endsA endsB; rw [k3]; rfl
      have HWS : Hid (sumW (wordsO false h.keys sub) ≤ 120 * sub.size) := words_size sub d _ _ HOK.out (fun e => head_keys HH.out (by rw [k3]; cases e))
      rw [k3] at x0 hV KV ⊢
      clear k0 k1 k2 k3 HH
      obtain ⟨wa, hwa⟩ : ∃ x : World, x = V.alloc (.cells #[] 9) := ⟨_, rfl⟩
      have ba : Below V.heap.size V wa := by rw [hwa]; exact (Below.refl _ _).alloc (Nat.le_refl _) _
      have ca : wa.heap[V.heap.size]? = some (.cells #[] 9 (0, 0)) := by rw [hwa]; exact heap_alloc_new _ _
      have BA : Hid (Below V.heap.size V wa) := ba
      have OA : Hid (wa.ownsRow V.heap.size 9 1 (.slice (some ⟨V.heap.size, 0, none⟩) 0 0) 0 []) := ⟨rfl, .inr ⟨_, 0, #[], rfl, Nat.le_refl _, ca, Nat.le_refl _, Nat.zero_le _, rfl, rfl⟩⟩
      have FA : Hid (OuFrom 0 V.heap.size V a2 0 sub) := (KV.out _ (Below.refl _ _)).2.2.1
      clear ba ca
      go_enter Tryz.func37, Tryz.ntmps37
      go_upto_region 1 with fail
      rw [← hV]
      clear hV
      go_wp2_with fail
      rw [← hwa]
      clear hwa x0
      go_loopw [4, 5] (fun v y w' => ∃ (xs : List ByteArray) (rest : Ous), y = .int .i64 xs.length ∧ xs.length + rest.len = sub.len ∧ Hid (rest.size ≤ sub.size) ∧ Hid (w'.ownsRow V.heap.size 9 1 v xs.length (kV xs)) ∧ Hid (Below V.heap.size V w') ∧ Hid (OuFrom 0 V.heap.size V a2 xs.length rest) ∧ Hid (okO d rest = true) ∧ Hid (wordsO false h.keys sub = xs ++ wordsO false (h.keys.drop xs.length) rest)) (fun _ y _ => sub.len - (intOf y).toNat)
      case atStart => exact ⟨[], sub, rfl, by simp, Nat.le_refl _, OA, BA, FA, HOK, by simp [Hid]⟩
      case round =>
        obtain ⟨wo, rfl⟩ : ∃ x, x = wr := ⟨_, rfl⟩
        obtain ⟨xs, rest, rfl, hi, HRS, HO, HB, HF, HD, HW⟩ := hrel
        have T0 := KV.out _ HB.out
        have x0 := fun o => row_cell T0.1 o
        have HBW : Hid (Below w.heap.size w wo) := T0.2.2.2
        have HKR : Hid (KeRow 0 wo.heap.size wo a1 h.keys) := T0.2.1
        clear T0
        cases rest with
        | nil =>
          simp only [Ous.len, Nat.add_zero] at hi
          have HWE : Hid (wordsO false h.keys sub = xs) := by rw [Hid, HW.out, wordsO, List.append_nil]
          have HZ : Hid (sumW xs ≤ 479880) := by rw [Hid, ← HWE.out]; have := HWS.out; omega
          obtain ⟨a', c', hv, hrow⟩ := kV_row HO.out
          have HRW : Hid _ := hrow
          subst hv
          have hcz := cj_size xs
          have hcz2 := HZ.out
          obtain ⟨z, hz⟩ : ∃ z, z = cj xs := ⟨_, rfl⟩
          have HC : Hid (∀ W : World, KeRow 0 W.heap.size W a' xs → Calls Tryz.prog 80 #[.slice a' xs.length c', .string ⟨#[44]⟩] W fun e w' => e = .returned (.string z) ∧ w' = W) := fun W hW => by rw [hz]; exact spec_cj a' c' xs W hW (by omega)
          have HT2 : Hid (outT h sub = ⟨#[91]⟩ ++ z ++ ⟨#[93]⟩) := by rw [Hid, HT.out, HWE.out, hz]
          have n1 : ¬ (9223372036854775807 < (⟨#[91]⟩ : ByteArray).size + z.size) := by have : (⟨#[91]⟩ : ByteArray).size = 1 := rfl; rw [hz]; omega
          have n2 : ¬ (9223372036854775807 < ((⟨#[91]⟩ : ByteArray) ++ z).size + (⟨#[93]⟩ : ByteArray).size) := by rw [ByteArray.size_append, hz]; have : (⟨#[91]⟩ : ByteArray).size = 1 := rfl; have : (⟨#[93]⟩ : ByteArray).size = 1 := rfl; omega
          have n3 : ¬ (9223372036854775807 < 1 + z.size) := by rw [hz]; omega
          have n4 : ¬ (9223372036854775807 < ((⟨#[91]⟩ : ByteArray) ++ z).size + 1) := by rw [ByteArray.size_append, hz]; have : (⟨#[91]⟩ : ByteArray).size = 1 := rfl; omega
          have x1 : (ByteArray.extract ⟨#[91, 93]⟩ 0 1) = ⟨#[91]⟩ := rfl
          have x2 : (ByteArray.extract ⟨#[91, 93]⟩ 1 2) = ⟨#[93]⟩ := rfl
          rw [← hi] at x0 ⊢
          clear hrow hz hcz hcz2 hi
          go_upto_region 19 with fail
          go_quiet ((first | (go_at_call 80; exact Calls.quiet_of_same (HC.out _ HRW.out))))
          go_wp2_with fail
          go_ret
          exact ⟨by rw [HT2.out]; rfl, HBW.out.trans ⟨rfl, rfl, rfl, Nat.le_refl _, fun _ _ => rfl⟩⟩
        | cons h' sub' rest =>
          have hlt : (xs.length : Int) < sub.len := by simp only [Ous.len] at hi; omega
          have hiN : xs.length < sub.len := by omega
          obtain ⟨b, o, a1', c1', a2', c2', ha, _, hbl, d0, d1, d2, d3, d4, hc', r1', r2', _⟩ := OuFrom.step (OuFrom.keep HF.out (agree HB.out (Nat.le_refl _)))
          have HF2 : Hid (OuFrom 0 V.heap.size V a2 (xs.length + 1) rest) := by
            obtain ⟨_, _, _, _, _, _, _, _, _, _, _, _, _, _, _, _, _, rf9⟩ := OuFrom.step HF.out
            exact rf9
          have hd2 := HD.out
          rw [okO_cons, Bool.and_eq_true] at hd2
          have D2 : Hid (okO d rest = true) := hd2.2
          have hrs := HRS.out
          simp only [Ous.size] at hrs
          have HRS2 : Hid (rest.size ≤ sub.size) := by rw [Hid]; omega
          have HOB : Hid (outB d h' sub' = true) := by
            unfold Hid outB
            rw [hd2.1, Bool.true_and, decide_eq_true_eq]
            omega
          have hzb := HB.out.size
          have R1 : Hid (KeRow 0 wo.heap.size wo a1' h'.keys) := KeRow.wide r1' (Nat.le_refl _) hzb
          have R2 : Hid (OuRow 0 wo.heap.size wo a2' sub') := OuRow.wide r2' (Nat.le_refl _) hzb
          have HZS : Hid ((outT h' sub').size ≤ 480042) := outT_size HOB.out
          subst ha
          clear r1' r2' hd2 hrs HRS HF HD
          go_upto_region 15 with fail
          go_wp2_with fail
          refine (IH.out h' sub' a1' a2' c1' c2' _ R1.out R2.out HOB.out).mono ?_
          rintro e w2 ⟨rfl, b2⟩
          have hB2 : Below V.heap.size V w2 := HB.out.trans (b2.mono HB.out.size)
          have O2 : w2.ownsRow V.heap.size 9 1 u4 xs.length (kV xs) := own_belowK HO.out b2
          have T2 := KV.out _ hB2
          have x2 := fun o => row_cell T2.1 o
          have HW2 : Hid (wordsO false h.keys sub = (xs ++ [keyed false (h.keys.getD xs.length ⟨#[]⟩) (outT h' sub')]) ++ wordsO false (h.keys.drop (xs.length + 1)) rest) := by rw [Hid, HW.out, words_cons]; simp
          have hzs := HZS.out
          obtain ⟨s, hs⟩ : ∃ s, s = outT h' sub' := ⟨_, rfl⟩
          rw [← hs] at HW2 hzs ⊢
          clear hs x0 HKR HBW HZS
          obtain ⟨t, ht⟩ : ∃ t, t = s := ⟨_, rfl⟩
          have HKY : Hid (keyed false (h.keys.getD xs.length ⟨#[]⟩) s = t) := by rw [Hid, ht]; rfl
          rw [HKY.out] at HW2
          obtain ⟨wb, hwb⟩ : ∃ x : World, x = w2.alloc (.cells #[.string t] 9) := ⟨_, rfl⟩
          have bb : Below w2.heap.size w2 wb := by rw [hwb]; exact (Below.refl _ _).alloc (Nat.le_refl _) _
          have cb : wb.heap[w2.heap.size]? = some (.cells #[.string t] 9 (0, 0)) := by rw [hwb]; exact heap_alloc_new _ _
          have z2 := hB2.size
          have zb := bb.size
          have hsl : sub.len ≤ 1048576 := by have := Ous.len_size sub; omega
          obtain ⟨g, cap, W', hrun, o1, o2, _, o3⟩ := app_str xs t u4 V.heap.size w2.heap.size wb (own_belowK O2 bb) cb (by omega) (by omega)
          have HRUN : Hid _ := hrun
          have O3 : Hid (W'.ownsRow V.heap.size 9 1 (.slice (some ⟨g, 0, none⟩) (xs.length + 1) cap) (xs ++ [t]).length (kV (xs ++ [t]))) := by rw [Hid]; simpa using o1
          have B3 : Hid (Below V.heap.size V W') := Below.grown (hB2.trans (bb.mono z2)) o2 (by omega) (fun k hk => own_baseK O2 k hk)
          have F3 : Hid (OuFrom 0 V.heap.size V (some ⟨b, o, none⟩) (xs ++ [t]).length rest) := by rw [Hid, List.length_append]; exact HF2.out
          have W3 : Hid (wordsO false h.keys sub = (xs ++ [t]) ++ wordsO false (h.keys.drop (xs ++ [t]).length) rest) := by rw [Hid, List.length_append]; exact HW2.out
          clear hrun o1 o2 o3 bb cb O2 T2 b2 hB2 z2 zb HW2 HF2
          rw [ht] at hwb
          clear HKY
          go_wp2_with (first | (at_builtin; rw [← hwb]; refine wpList_app_str rfl _ _ _ rfl _ _ _ _ rfl rfl HRUN.out ?_) | fail)
          exact ⟨⟨xs ++ [t], rest, by simp only [List.length_append, List.length_singleton]; go_num, by simp only [Ous.len] at hi; simp; omega, HRS2, O3, B3, F3, D2, W3⟩, by simp [intOf]; omega⟩
    have k4 : h.k = 4 := by
      have h1 := HH.out
      unfold headB at h1
      rw [if_neg k0, if_neg k1, if_neg k2, if_neg k3] at h1
      by_cases k4 : h.k = 4
      · exact k4
      · rw [if_neg k4] at h1; cases h1
    · skip
      have HT : Hid (outT h sub = ⟨#[123]⟩ ++ cj (wordsO true h.keys sub) ++ ⟨#[125]⟩) := by unfold Hid outT valT endsA endsB; rw [k4]; rfl
      have HWS : Hid (sumW (wordsO true h.keys sub) ≤ 120 * sub.size) := words_size sub d _ _ HOK.out (fun e => head_keys HH.out (by rw [k4]; rfl))
      have HKL : Hid (h.keys.length = sub.len) := by
        have h1 := HH.out
        unfold headB at h1
        rw [k4] at h1
        simp at h1
        exact h1.1.2
      have HKS : Hid (∀ k ∈ h.keys, k.size ≤ 40) := head_keys HH.out (by rw [k4]; rfl)
      rw [k4] at x0 hV KV ⊢
      clear k0 k1 k2 k3 k4 HH
      obtain ⟨wa, hwa⟩ : ∃ x : World, x = V.alloc (.cells #[] 9) := ⟨_, rfl⟩
      have ba : Below V.heap.size V wa := by rw [hwa]; exact (Below.refl _ _).alloc (Nat.le_refl _) _
      have ca : wa.heap[V.heap.size]? = some (.cells #[] 9 (0, 0)) := by rw [hwa]; exact heap_alloc_new _ _
      have BA : Hid (Below V.heap.size V wa) := ba
      have OA : Hid (wa.ownsRow V.heap.size 9 1 (.slice (some ⟨V.heap.size, 0, none⟩) 0 0) 0 []) := ⟨rfl, .inr ⟨_, 0, #[], rfl, Nat.le_refl _, ca, Nat.le_refl _, Nat.zero_le _, rfl, rfl⟩⟩
      have FA : Hid (OuFrom 0 V.heap.size V a2 0 sub) := (KV.out _ (Below.refl _ _)).2.2.1
      clear ba ca
      go_enter Tryz.func37, Tryz.ntmps37
      go_upto_region 1 with fail
      rw [← hV]
      clear hV
      go_wp2_with fail
      rw [← hwa]
      clear hwa x0
      go_loopw [4, 5] (fun v y w' => ∃ (xs : List ByteArray) (rest : Ous), y = .int .i64 xs.length ∧ xs.length + rest.len = sub.len ∧ Hid (rest.size ≤ sub.size) ∧ Hid (w'.ownsRow V.heap.size 9 1 v xs.length (kV xs)) ∧ Hid (Below V.heap.size V w') ∧ Hid (OuFrom 0 V.heap.size V a2 xs.length rest) ∧ Hid (okO d rest = true) ∧ Hid (wordsO true h.keys sub = xs ++ wordsO true (h.keys.drop xs.length) rest)) (fun _ y _ => sub.len - (intOf y).toNat)
      case atStart => exact ⟨[], sub, rfl, by simp, Nat.le_refl _, OA, BA, FA, HOK, by simp [Hid]⟩
      case round =>
        obtain ⟨wo, rfl⟩ : ∃ x, x = wr := ⟨_, rfl⟩
        obtain ⟨xs, rest, rfl, hi, HRS, HO, HB, HF, HD, HW⟩ := hrel
        have T0 := KV.out _ HB.out
        have x0 := fun o => row_cell T0.1 o
        have HBW : Hid (Below w.heap.size w wo) := T0.2.2.2
        have HKR : Hid (KeRow 0 wo.heap.size wo a1 h.keys) := T0.2.1
        clear T0
        cases rest with
        | nil =>
          simp only [Ous.len, Nat.add_zero] at hi
          have HWE : Hid (wordsO true h.keys sub = xs) := by rw [Hid, HW.out, wordsO, List.append_nil]
          have HZ : Hid (sumW xs ≤ 479880) := by rw [Hid, ← HWE.out]; have := HWS.out; omega
          obtain ⟨a', c', hv, hrow⟩ := kV_row HO.out
          have HRW : Hid _ := hrow
          subst hv
          have hcz := cj_size xs
          have hcz2 := HZ.out
          obtain ⟨z, hz⟩ : ∃ z, z = cj xs := ⟨_, rfl⟩
          have HC : Hid (∀ W : World, KeRow 0 W.heap.size W a' xs → Calls Tryz.prog 80 #[.slice a' xs.length c', .string ⟨#[44]⟩] W fun e w' => e = .returned (.string z) ∧ w' = W) := fun W hW => by rw [hz]; exact spec_cj a' c' xs W hW (by omega)
          have HT2 : Hid (outT h sub = ⟨#[123]⟩ ++ z ++ ⟨#[125]⟩) := by rw [Hid, HT.out, HWE.out, hz]
          have n1 : ¬ (9223372036854775807 < (⟨#[123]⟩ : ByteArray).size + z.size) := by have : (⟨#[123]⟩ : ByteArray).size = 1 := rfl; rw [hz]; omega
          have n2 : ¬ (9223372036854775807 < ((⟨#[123]⟩ : ByteArray) ++ z).size + (⟨#[125]⟩ : ByteArray).size) := by rw [ByteArray.size_append, hz]; have : (⟨#[123]⟩ : ByteArray).size = 1 := rfl; have : (⟨#[125]⟩ : ByteArray).size = 1 := rfl; omega
          have n3 : ¬ (9223372036854775807 < 1 + z.size) := by rw [hz]; omega
          have n4 : ¬ (9223372036854775807 < ((⟨#[123]⟩ : ByteArray) ++ z).size + 1) := by rw [ByteArray.size_append, hz]; have : (⟨#[123]⟩ : ByteArray).size = 1 := rfl; omega
          have x1 : (ByteArray.extract ⟨#[123, 125]⟩ 0 1) = ⟨#[123]⟩ := rfl
          have x2 : (ByteArray.extract ⟨#[123, 125]⟩ 1 2) = ⟨#[125]⟩ := rfl
          rw [← hi] at x0 ⊢
          clear hrow hz hcz hcz2 hi
          go_upto_region 19 with fail
          go_quiet ((first | (go_at_call 80; exact Calls.quiet_of_same (HC.out _ HRW.out))))
          go_wp2_with fail
          go_ret
          exact ⟨by rw [HT2.out]; rfl, HBW.out.trans ⟨rfl, rfl, rfl, Nat.le_refl _, fun _ _ => rfl⟩⟩
        | cons h' sub' rest =>
          have hlt : (xs.length : Int) < sub.len := by simp only [Ous.len] at hi; omega
          have hiN : xs.length < sub.len := by omega
          obtain ⟨b, o, a1', c1', a2', c2', ha, _, hbl, d0, d1, d2, d3, d4, hc', r1', r2', _⟩ := OuFrom.step (OuFrom.keep HF.out (agree HB.out (Nat.le_refl _)))
          have HF2 : Hid (OuFrom 0 V.heap.size V a2 (xs.length + 1) rest) := by
            obtain ⟨_, _, _, _, _, _, _, _, _, _, _, _, _, _, _, _, _, rf9⟩ := OuFrom.step HF.out
            exact rf9
          have hd2 := HD.out
          rw [okO_cons, Bool.and_eq_true] at hd2
          have D2 : Hid (okO d rest = true) := hd2.2
          have hrs := HRS.out
          simp only [Ous.size] at hrs
          have HRS2 : Hid (rest.size ≤ sub.size) := by rw [Hid]; omega
          have HOB : Hid (outB d h' sub' = true) := by
            unfold Hid outB
            rw [hd2.1, Bool.true_and, decide_eq_true_eq]
            omega
          have hzb := HB.out.size
          have R1 : Hid (KeRow 0 wo.heap.size wo a1' h'.keys) := KeRow.wide r1' (Nat.le_refl _) hzb
          have R2 : Hid (OuRow 0 wo.heap.size wo a2' sub') := OuRow.wide r2' (Nat.le_refl _) hzb
          have HZS : Hid ((outT h' sub').size ≤ 480042) := outT_size HOB.out
          subst ha
          clear r1' r2' hd2 hrs HRS HF HD
          go_upto_region 15 with fail
          go_wp2_with fail
          refine (IH.out h' sub' a1' a2' c1' c2' _ R1.out R2.out HOB.out).mono ?_
          rintro e w2 ⟨rfl, b2⟩
          have hB2 : Below V.heap.size V w2 := HB.out.trans (b2.mono HB.out.size)
          have O2 : w2.ownsRow V.heap.size 9 1 u4 xs.length (kV xs) := own_belowK HO.out b2
          have T2 := KV.out _ hB2
          have x2 := fun o => row_cell T2.1 o
          have HW2 : Hid (wordsO true h.keys sub = (xs ++ [keyed true (h.keys.getD xs.length ⟨#[]⟩) (outT h' sub')]) ++ wordsO true (h.keys.drop (xs.length + 1)) rest) := by rw [Hid, HW.out, words_cons]; simp
          have hzs := HZS.out
          obtain ⟨s, hs⟩ : ∃ s, s = outT h' sub' := ⟨_, rfl⟩
          rw [← hs] at HW2 hzs ⊢
          clear hs x0 HKR HBW HZS
          have hkl : xs.length < h.keys.length := by rw [HKL.out]; exact hiN
          have hkl' : (xs.length : Int) < h.keys.length := by omega
          obtain ⟨b9, o9, ha9, _, hbl9, e9⟩ := KeRow.cells T2.2.1 xs.length hkl
          have hgd : h.keys.getD xs.length ⟨#[]⟩ = h.keys[xs.length] := by rw [List.getD_eq_getElem?_getD, List.getElem?_eq_getElem hkl]; rfl
          rw [hgd] at HW2
          have hks := HKS.out _ (List.getElem_mem hkl)
          obtain ⟨ky, hky⟩ : ∃ s, s = h.keys[xs.length] := ⟨_, rfl⟩
          rw [← hky] at HW2 e9 hks
          subst ha9
          have m1 : (⟨#[34]⟩ : ByteArray).size = 1 := rfl
          have m2 : (⟨#[34, 58]⟩ : ByteArray).size = 2 := rfl
          have n1 : ¬ (9223372036854775807 < (⟨#[34]⟩ : ByteArray).size + ky.size) := by omega
          have n2 : ¬ (9223372036854775807 < ((⟨#[34]⟩ : ByteArray) ++ ky).size + (⟨#[34, 58]⟩ : ByteArray).size) := by rw [ByteArray.size_append]; omega
          have n3 : ¬ (9223372036854775807 < ((⟨#[34]⟩ : ByteArray) ++ ky ++ ⟨#[34, 58]⟩).size + s.size) := by rw [ByteArray.size_append, ByteArray.size_append]; omega
          obtain ⟨t, ht⟩ : ∃ t, t = (⟨#[34]⟩ : ByteArray) ++ ky ++ ⟨#[34, 58]⟩ ++ s := ⟨_, rfl⟩
          have HKY : Hid (keyed true ky s = t) := by rw [Hid, ht]; rfl
          rw [HKY.out] at HW2
          clear m1 m2 hgd hky
          obtain ⟨wb, hwb⟩ : ∃ x : World, x = w2.alloc (.cells #[.string t] 9) := ⟨_, rfl⟩
          have bb : Below w2.heap.size w2 wb := by rw [hwb]; exact (Below.refl _ _).alloc (Nat.le_refl _) _
          have cb : wb.heap[w2.heap.size]? = some (.cells #[.string t] 9 (0, 0)) := by rw [hwb]; exact heap_alloc_new _ _
          have z2 := hB2.size
          have zb := bb.size
          have hsl : sub.len ≤ 1048576 := by have := Ous.len_size sub; omega
          obtain ⟨g, cap, W', hrun, o1, o2, _, o3⟩ := app_str xs t u4 V.heap.size w2.heap.size wb (own_belowK O2 bb) cb (by omega) (by omega)
          have HRUN : Hid _ := hrun
          have O3 : Hid (W'.ownsRow V.heap.size 9 1 (.slice (some ⟨g, 0, none⟩) (xs.length + 1) cap) (xs ++ [t]).length (kV (xs ++ [t]))) := by rw [Hid]; simpa using o1
          have B3 : Hid (Below V.heap.size V W') := Below.grown (hB2.trans (bb.mono z2)) o2 (by omega) (fun k hk => own_baseK O2 k hk)
          have F3 : Hid (OuFrom 0 V.heap.size V (some ⟨b, o, none⟩) (xs ++ [t]).length rest) := by rw [Hid, List.length_append]; exact HF2.out
          have W3 : Hid (wordsO true h.keys sub = (xs ++ [t]) ++ wordsO true (h.keys.drop (xs ++ [t]).length) rest) := by rw [Hid, List.length_append]; exact HW2.out
          clear hrun o1 o2 o3 bb cb O2 T2 b2 hB2 z2 zb HW2 HF2
          rw [ht] at hwb
          clear HKY
          go_wp2_with (first | (at_builtin; rw [← hwb]; refine wpList_app_str rfl _ _ _ rfl _ _ _ _ rfl rfl HRUN.out ?_) | fail)
          exact ⟨⟨xs ++ [t], rest, by simp only [List.length_append, List.length_singleton]; go_num, by simp only [Ous.len] at hi; simp; omega, HRS2, O3, B3, F3, D2, W3⟩, by simp [intOf]; omega⟩
end Go.Proofs.YtoaeggfnlenjkaaGreatDoor.G
namespace Go.Proofs.YtoaeggfnlenjkaaGreatDoor.G
open Go.ChangeShapes Go.WideShapes Go.ChangeAt Go.RowKit
set_option linter.unusedVariables false

theorem grown_refl (w : World) (r : Option Nat) : w.grownBy w r := ⟨rfl, rfl, rfl, Nat.le_refl _, fun _ _ _ => rfl⟩
theorem grown_trans {a w w' : World} {r : Option Nat} (h : a.grownBy w r) (g : w.grownBy w' r) : a.grownBy w' r :=
  ⟨g.os.trans h.os, g.tape.trans h.tape, g.output.trans h.output, Nat.le_trans h.size g.size, fun k hk hn => (g.block k (Nat.lt_of_lt_of_le hk h.size) hn).trans (h.block k hk hn)⟩
theorem grown_set {a w : World} {L : Nat} (h : a.grownBy w (some L)) (o : Nat) (v : Value) : a.grownBy (w.setCell ⟨L, o, none⟩ v) (some L) :=
  ⟨h.os, h.tape, h.output, by simpa using h.size, fun k hk hn => (heap_set _ _ _ _ _ (fun e => hn (by rw [e]))).trans (h.block k hk hn)⟩
theorem grown_drewN (w : World) (n : Nat) (r : Option Nat) : w.grownBy (w.drewN n) r := ⟨rfl, rfl, rfl, Nat.le_refl _, fun _ _ _ => rfl⟩
/-- A slice of bytes: any place where there is none; else a block below B holds them. -/
def ByteRow (B : Nat) (w : World) (a : Option Addr) (n : Nat) : Prop :=
  n = 0 ∨ ∃ b o, a = some ⟨b, o, none⟩ ∧ b < B ∧ B ≤ w.heap.size ∧ ∀ i, i < n → ∃ c : Nat, c < 256 ∧ w.cell? ⟨b, o + i, none⟩ = some (.int .u8 (c : Int))
theorem ByteRow.keep {B : Nat} {w w' : World} {a : Option Addr} {n : Nat} (h : ByteRow B w a n) (hs : w.heap.size ≤ w'.heap.size) (hb : ∀ k, k < B → w'.heap[k]? = w.heap[k]?) : ByteRow B w' a n := by
  rcases h with h | ⟨b, o, rfl, h1, h2, h3⟩
  · exact .inl h
  · refine .inr ⟨b, o, rfl, h1, Nat.le_trans h2 hs, fun i hi => ?_⟩
    obtain ⟨c, hc, e⟩ := h3 i hi
    exact ⟨c, hc, (World.cell?_of_block (w := w) (hb b h1)).trans e⟩
theorem ByteRow.at_ {B : Nat} {w : World} {a : Option Addr} {n : Nat} (h : ByteRow B w a n) (hn : 0 < n) : ∃ b o, a = some ⟨b, o, none⟩ ∧ b < B ∧ ∀ i, i < n → ∃ c : Nat, c < 256 ∧ w.cell? ⟨b, o + i, none⟩ = some (.int .u8 (c : Int)) := by
  rcases h with h | ⟨b, o, rfl, h1, h2, h3⟩
  · omega
  · exact ⟨b, o, rfl, h1, h3⟩
theorem mod_wrap (i m : Nat) (hm : 0 < m) (hi : i ≤ 100000) : IntKind.i64.wrap ((i : Int).tmod (m : Int)) = ((i % m : Nat) : Int) := by
  have h1 : i % m ≤ i := Nat.mod_le _ _
  rw [Int.tmod_eq_emod_of_nonneg (by omega), ← Int.natCast_emod]
  unfold IntKind.wrap
  simp [IntKind.bits, IntKind.signed]
  omega
theorem tmod_nat (i m : Nat) (hm : 0 < m) : ∃ r : Nat, (i : Int).tmod m = (r : Int) ∧ r < m :=
  ⟨i % m, by rw [Int.tmod_eq_emod_of_nonneg (by omega)]; omega, Nat.mod_lt _ hm⟩
theorem tdiv_nat (i m : Nat) : ∃ r : Nat, (i : Int).tdiv m = (r : Int) ∧ r ≤ i :=
  ⟨i / m, by rw [Int.tdiv_eq_ediv_of_nonneg (by omega)]; omega, Nat.div_le_self _ _⟩
theorem tmod_int {x : Int} {m : Nat} (hx : 0 ≤ x) (hm : 0 < m) : ∃ r : Nat, x.tmod m = (r : Int) ∧ r < m := by
  obtain ⟨k, rfl⟩ := Int.eq_ofNat_of_zero_le hx
  exact tmod_nat k m hm

/-- A source of choices: the code, how much was read (at most k), the seed. -/
def SrcSt (w : World) (L : Nat) (a : Option Addr) (n k : Nat) : Prop :=
  ∃ (c p : Nat) (sd : Int), w.heap[L]? = some (.cells #[.slice a n c, .int .i64 p, .int .i64 sd] 102 (0, 0)) ∧ p ≤ k ∧ 0 ≤ sd ∧ sd < 2147483648
theorem row_keep {w w' : World} {B : Nat} {a : Option Addr} {n : Nat} (h : ByteRow B w a n) (hg : w.grownBy w' (some B)) : ByteRow B w' a n := by
  rcases h with h | ⟨b, o, rfl, h1, h2, h3⟩
  · exact .inl h
  · exact ByteRow.keep (.inr ⟨b, o, rfl, h1, h2, h3⟩) hg.size (fun k hk => hg.block k (by omega) (by intro e; simp only [Option.some.injEq] at e; omega))
theorem tmod31 (x : Int) (h : 0 ≤ x) : ∃ r : Int, x.tmod 2147483648 = r ∧ 0 ≤ r ∧ r < 2147483648 :=
  ⟨x % 2147483648, Int.tmod_eq_emod_of_nonneg h, by omega, by omega⟩
theorem top8 (x : Int) (h : 0 ≤ x) : ∃ v : Nat, (x.tdiv 65536).tmod 256 = (v : Int) ∧ v < 256 :=
  ⟨(x / 65536 % 256).toNat, by rw [Int.tdiv_eq_ediv_of_nonneg h, Int.tmod_eq_emod_of_nonneg (by omega)]; omega, by omega⟩

set_option maxHeartbeats 2000000 in
theorem byte_any (L n k : Nat) (a : Option Addr) (w : World) (h : SrcSt w L a n k) (hr : ByteRow L w a n) (hk : k ≤ 100000) (hn : n ≤ 1048576) :
    Calls Tryz.prog 108 #[.pointer (some ⟨L, 0, none⟩)] w fun e w' => (∃ v : Nat, v < 256 ∧ e = .returned (.int .i64 v)) ∧ SrcSt w' L a n (k + 1) ∧ w.grownBy w' (some L) := by
  obtain ⟨c, p, sd, hh, hp, hs0, hsd⟩ := h
  have d0 := row_cell hh 0
  have d1 := row_cell hh 1
  have d2 := row_cell hh 2
  have f1 := row_frozen hh 1
  have f2 := row_frozen hh 2
  simp at d0 d1 d2
  have hh2 := row_set hh 1 (.int .i64 ((p : Int) + 1))
  have HG : Hid (w.grownBy (w.setCell ⟨L, 1, none⟩ (.int .i64 ((p : Int) + 1))) (some L)) := grown_set (grown_refl w (some L)) 1 (.int .i64 ((p : Int) + 1))
  have HR : Hid (ByteRow L (w.setCell ⟨L, 1, none⟩ (.int .i64 ((p : Int) + 1))) a n) := row_keep hr HG.out
  have HH : Hid ((w.setCell ⟨L, 1, none⟩ (.int .i64 ((p : Int) + 1))).heap[L]? = some (.cells #[.slice a n c, .int .i64 ((p : Int) + 1), .int .i64 sd] 102 (0, 0))) := by unfold Hid; simpa using hh2
  clear hh hr hh2
  go_enter Tryz.func108, Tryz.ntmps108
  go_wp2_with fail
  clear d0 d1 d2 f1 f2
  generalize w.setCell ⟨L, 1, none⟩ (.int .i64 ((p : Int) + 1)) = wq at *
  have d0 := row_cell HH.out 0
  have d1 := row_cell HH.out 1
  have d2 := row_cell HH.out 2
  have f2 := row_frozen HH.out 2
  simp at d0 d1 d2
  by_cases hin : p + 1 ≤ n
  · obtain ⟨b, o, rfl, hb, hc⟩ := ByteRow.at_ HR.out (by omega)
    obtain ⟨c1, l1, e1⟩ := hc p (by omega)
    obtain ⟨r, q, br0, br1⟩ := tmod31 (sd * 31 + c1 + 7) (by omega)
    clear hc
    have hle : (p : Int) + 1 ≤ n := by omega
    have hlt : (p : Int) < n := by omega
    go_quiet (fail)
    go_wp2_with fail
    have hLs : L < wq.heap.size := (Array.getElem?_eq_some_iff.1 HH.out).1
    clear HR
    go_region
    have H3 : ((wq.drewN (nq + 1)).setCell ⟨L, 2, none⟩ (.int .i64 r)).heap[L]? = some (.cells #[.slice (some ⟨b, o, none⟩) n c, .int .i64 ((p : Int) + 1), .int .i64 r] 102 (0, 0)) := by
      have := row_set (w := wq.drewN (nq + 1)) HH.out 2 (.int .i64 r)
      simpa using this
    have G3 : wq.grownBy ((wq.drewN (nq + 1)).setCell ⟨L, 2, none⟩ (.int .i64 r)) (some L) := grown_set (grown_drewN wq (nq + 1) _) _ _
    have E3 := (World.cell?_of_block (a := ⟨b, o + p, none⟩) (w := wq) (G3.block b (by omega) (by intro e; simp only [Option.some.injEq] at e; omega))).trans e1
    have GW := grown_trans HG.out G3
    clear G3 d0 d1 d2 f2 e1
    generalize (wq.drewN (nq + 1)).setCell ⟨L, 2, none⟩ (.int .i64 r) = wz at *
    have d0 := row_cell H3 0
    have d1 := row_cell H3 1
    simp at d0 d1
    have H4 : Hid _ := H3
    clear H3
    go_wp2_with fail
    go_quiet (fail)
    go_wp2_with fail
    go_ret
    exact ⟨⟨c1, l1, rfl⟩, ⟨c, p + 1, r, H4.out, by omega, br0, br1⟩, grown_trans GW (grown_drewN wz _ _)⟩
  · have hle : ¬ (p : Int) + 1 ≤ n := by omega
    by_cases hbig : 3000 < (p : Int) + 1
    · go_quiet (fail)
      go_wp2_with fail
      go_ret
      exact ⟨⟨0, by omega, rfl⟩, ⟨c, p + 1, sd, HH.out, by omega, hs0, hsd⟩, grown_trans HG.out (grown_drewN wq nq _)⟩
    · obtain ⟨r, q, br0, br1⟩ := tmod31 (sd * 1103515245 + 12345) (by omega)
      obtain ⟨v, hv, hv2⟩ := top8 r br0
      have HR2 := row_set HH.out 2 (.int .i64 r)
      have HG2 := grown_set HG.out 2 (.int .i64 r)
      have HHR : Hid _ := HR2
      have HHG : Hid _ := HG2
      clear HR2 HG2
      go_quiet (fail)
      go_wp2_with fail
      go_ret
      have H3 : ((wq.drewN nq).setCell ⟨L, 2, none⟩ (.int .i64 r)).heap[L]? = some (.cells #[.slice a n c, .int .i64 ((p : Int) + 1), .int .i64 r] 102 (0, 0)) := by
        have := row_set (w := wq.drewN nq) HH.out 2 (.int .i64 r)
        simpa using this
      exact ⟨⟨(r / 65536 % 256).toNat, by omega, by rw [Int.toNat_of_nonneg (by omega)]; rfl⟩, ⟨c, p + 1, r, H3, by omega, br0, br1⟩, grown_set (grown_trans HG.out (grown_drewN wq nq _)) _ _⟩

set_option maxHeartbeats 1000000 in
theorem next_any (m : Nat) (L n k : Nat) (a : Option Addr) (w : World) (h : SrcSt w L a n k) (hr : ByteRow L w a n) (hk : k ≤ 100000) (hn : n ≤ 1048576) (hm : 2 ≤ m) (hm2 : m ≤ 256) :
    Calls Tryz.prog 69 #[.pointer (some ⟨L, 0, none⟩), .int .i64 m] w fun e w' => (∃ v : Nat, v < m ∧ e = .returned (.int .i64 v)) ∧ SrcSt w' L a n (k + 1) ∧ w.grownBy w' (some L) := by
  have HS : Hid (SrcSt w L a n k) := h
  have HR : Hid (ByteRow L w a n) := hr
  clear h hr
  go_enter Tryz.func69, Tryz.ntmps69
  go_wp2_with fail
  refine (byte_any L n k a _ HS.out HR.out hk hn).mono ?_
  rintro e w1 ⟨⟨v, hv, rfl⟩, st, hg⟩
  have HS1 : Hid (SrcSt w1 L a n (k + 1)) := st
  have HG1 : Hid (w.grownBy w1 (some L)) := hg
  clear st hg
  obtain ⟨r, q, br⟩ := tmod_nat v m (by omega)
  have hmz : (m : Int) ≠ 0 := by omega
  go_wp2_with fail
  go_ret
  exact ⟨⟨r, br, rfl⟩, HS1.out, HG1.out⟩


theorem SrcSt.lt {w : World} {L : Nat} {a : Option Addr} {n k : Nat} (h : SrcSt w L a n k) : L < w.heap.size := by
  obtain ⟨c, p, sd, hh, _⟩ := h
  exact (Array.getElem?_eq_some_iff.1 hh).1
theorem SrcSt.move {w w' : World} {L : Nat} {a : Option Addr} {n k : Nat} (h : SrcSt w L a n k) (hb : w'.heap[L]? = w.heap[L]?) : SrcSt w' L a n k := by
  obtain ⟨c, p, sd, hh, h2⟩ := h
  exact ⟨c, p, sd, hb.trans hh, h2⟩
theorem SrcSt.more {w : World} {L : Nat} {a : Option Addr} {n k k' : Nat} (h : SrcSt w L a n k) (hk : k ≤ k') : SrcSt w L a n k' := by
  obtain ⟨c, p, sd, hh, h1, h2⟩ := h
  exact ⟨c, p, sd, hh, by omega, h2⟩
theorem ByteRow.up {L : Nat} {w w' : World} {a : Option Addr} {n : Nat} (h : ByteRow L w a n) (hL : L ≤ w.heap.size) (hb : Below w.heap.size w w') : ByteRow L w' a n :=
  ByteRow.keep h hb.size (fun k hk => hb.block k (by omega))

set_option maxHeartbeats 1000000 in
theorem next_pos (m : Nat) (L n k : Nat) (a : Option Addr) (w : World) (h : SrcSt w L a n k) (hr : ByteRow L w a n) (hk : k ≤ 100000) (hn : n ≤ 1048576) (hm : 1 ≤ m) (hm2 : m ≤ 256) :
    Calls Tryz.prog 69 #[.pointer (some ⟨L, 0, none⟩), .int .i64 m] w fun e w' => (∃ v : Nat, v < m ∧ e = .returned (.int .i64 v)) ∧ SrcSt w' L a n (k + 1) ∧ w.grownBy w' (some L) := by
  by_cases h2 : 2 ≤ m
  · exact next_any m L n k a w h hr hk hn h2 hm2
  · obtain rfl : m = 1 := by omega
    have HS : Hid _ := h.more (show k ≤ k + 1 by omega)
    clear h hr
    go_enter Tryz.func69, Tryz.ntmps69
    go_wp2_with fail
    go_ret
    exact ⟨⟨0, by omega, rfl⟩, HS.out, grown_refl _ _⟩
set_option maxHeartbeats 1000000 in
theorem chance_any (m : Nat) (L n k : Nat) (a : Option Addr) (w : World) (h : SrcSt w L a n k) (hr : ByteRow L w a n) (hk : k ≤ 100000) (hn : n ≤ 1048576) (hm : 1 ≤ m) (hm2 : m ≤ 256) :
    Calls Tryz.prog 71 #[.pointer (some ⟨L, 0, none⟩), .int .i64 m] w fun e w' => (∃ b : Bool, e = .returned (.bool b)) ∧ SrcSt w' L a n (k + 1) ∧ w.grownBy w' (some L) := by
  go_enter Tryz.func71, Tryz.ntmps71
  go_wp2_with fail
  refine (next_pos m L n k a _ h hr hk hn hm hm2).mono ?_
  rintro e w1 ⟨⟨v, hv, rfl⟩, st, hg⟩
  have HS1 : Hid (SrcSt w1 L a n (k + 1)) := st
  have HG1 : Hid (w.grownBy w1 (some L)) := hg
  clear st hg h hr
  go_wp2_with fail
  go_ret
  exact ⟨⟨_, rfl⟩, HS1.out, HG1.out⟩
set_option maxHeartbeats 1000000 in
theorem source_any (n c : Nat) (a : Option Addr) (w : World) (hn : n ≤ 1048576) :
    Calls Tryz.prog 32 #[.slice a n c] w fun e w' => e = .returned (.pointer (some ⟨w.heap.size, 0, none⟩)) ∧ SrcSt w' w.heap.size a n 0 ∧ Below w.heap.size w w' := by
  obtain ⟨r, hr, hr2⟩ := tmod_nat n 1000 (by omega)
  have hr' : (n : Int).tmod 1000 = r := hr
  go_enter Tryz.func32, Tryz.ntmps32
  go_wp2_with fail
  go_ret
  exact ⟨rfl, ⟨c, 0, r, heap_alloc_new _ _, by omega, by omega, by omega⟩, (Below.refl _ _).alloc (Nat.le_refl _) _⟩
end Go.Proofs.YtoaeggfnlenjkaaGreatDoor.G
namespace Go.Proofs.YtoaeggfnlenjkaaGreatDoor.G
open Go.ChangeShapes Go.WideShapes Go.ChangeAt Go.RowKit
set_option linter.unusedVariables false

theorem KeRow.grow {lo hi L : Nat} {w w' : World} {a : Option Addr} {l : List ByteArray} (h : KeRow lo hi w a l) (hg : w.grownBy w' (some L)) (hL : L < lo) (hh : hi ≤ w.heap.size) : KeRow lo hi w' a l :=
  KeRow.keep h (fun b h1 h2 => hg.block b (by omega) (by intro e; simp only [Option.some.injEq] at e; omega))
set_option maxHeartbeats 1000000 in
theorem pick_any (l : List ByteArray) (a' : Option Addr) (c' : Nat) (L n k : Nat) (a : Option Addr) (w : World) (h : SrcSt w L a n k) (hr : ByteRow L w a n) (hk : k ≤ 100000) (hn : n ≤ 1048576) (h1 : 1 ≤ l.length) (h2 : l.length ≤ 256) (hrow : KeRow (L + 1) w.heap.size w a' l) :
    Calls Tryz.prog 70 #[.pointer (some ⟨L, 0, none⟩), .slice a' l.length c'] w fun e w' => (∃ s ∈ l, e = .returned (.string s)) ∧ SrcSt w' L a n (k + 1) ∧ w.grownBy w' (some L) := by
  have HR : Hid _ := hrow
  have hne : ¬ (l.length : Int) = 0 := by omega
  have hne' : ((l.length : Int) == 0) = false := by rw [beq_eq_false_iff_ne]; exact hne
  have HS : Hid _ := h
  have HB : Hid _ := hr
  clear h hr hrow
  go_enter Tryz.func70, Tryz.ntmps70
  go_wp2_with fail
  refine (next_pos l.length L n k a _ HS.out HB.out hk hn h1 h2).mono ?_
  rintro e w1 ⟨⟨v, hv, rfl⟩, st, hg⟩
  have HS1 : Hid (SrcSt w1 L a n (k + 1)) := st
  have HG1 : Hid (w.grownBy w1 (some L)) := hg
  obtain ⟨b, o, ha, _, hbl, c0⟩ := KeRow.cells (KeRow.grow HR.out hg (by omega) (Nat.le_refl _)) v hv
  have HM : Hid (l[v] ∈ l) := List.getElem_mem hv
  subst ha
  clear st hg
  go_wp2_with fail
  go_ret
  exact ⟨⟨_, HM.out, rfl⟩, HS1.out, HG1.out⟩
end Go.Proofs.YtoaeggfnlenjkaaGreatDoor.G
