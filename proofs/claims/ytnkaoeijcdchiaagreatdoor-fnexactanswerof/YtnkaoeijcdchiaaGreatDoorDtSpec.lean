/- The specification's paths: a text cut at its points, part by part. -/
import Derived.Test.YtnkaoeijcdchiaaGreatDoorDocMath
import Derived.Test.YtnkaoeijcdchiaaGreatDoorOuSpec
import Derived.Test.YtnkaoeijcdchiaaGreatDoorOuOwn
import Derived.Test.YtnkaoeijcdchiaaGreatDoorLexSpec
import Derived.Test.YtnkaoeijcdchiaaGreatDoorDtNum
namespace Go.Proofs.YtnkaoeijcdchiaaGreatDoor.G
open Go.ChangeShapes Go.WideShapes Go.ChangeAt Go.RowKit
set_option linter.unusedVariables false

set_option maxHeartbeats 1000000 in
theorem spec_cj (a : Option Addr) (c : Nat) (ss : List ByteArray) (w : World) (hr : KeRow 0 w.heap.size w a ss) (hz : sumW ss ≤ 1073741824) :
    Calls Tryz.prog 108 #[.slice a ss.length c, .string ⟨#[44]⟩] w fun e w' => e = .returned (.string (cj ss)) ∧ w' = w := by
  have HR : Hid _ := hr
  have hn := len_sumW ss
  have HZ : Hid _ := hz
  clear hr
  go_enter Tryz.func108, Tryz.ntmps108
  go_wp2_with fail
  go_loop [5, 6] (fun s i => ∃ k : Nat, k ≤ ss.length ∧ i = .int .i64 k ∧ s = .string (cjTo ss k)) (fun _ i => ss.length - (intOf i).toNat)
  case atStart => exact ⟨0, by omega, rfl, rfl⟩
  case round =>
    obtain ⟨k, hk, rfl, rfl⟩ := hrel
    by_cases hlt : k < ss.length
    · obtain ⟨b, o, ha, _, hbl, c0⟩ := KeRow.cells HR.out k hlt
      subst ha
      have hj : (cjTo ss k).size ≤ 1073741824 := by
        have h1 := cjTo_size (ss := ss) k hk
        have h2 : sumW ss = sumW (ss.take k) + sumW (ss.drop k) := by rw [← sumW_app, List.take_append_drop]
        omega
      have hg : ss[k].size + 1 ≤ sumW ss := mem_sumW (List.getElem_mem hlt)
      have hgd : ss.getD k ⟨#[]⟩ = ss[k] := by rw [List.getD_eq_getElem?_getD, List.getElem?_eq_getElem hlt]; rfl
      have h1 : (⟨#[44]⟩ : ByteArray).size = 1 := rfl
      by_cases h0 : 0 < k
      · have HF : Hid (cjTo ss (k + 1) = (cjTo ss k ++ ⟨#[44]⟩) ++ ss[k]) := by rw [Hid, cjTo, if_pos h0, hgd]
        have n1 : ¬ (9223372036854775807 < (cjTo ss k).size + (⟨#[44]⟩ : ByteArray).size) := by omega
        have n2 : ¬ (9223372036854775807 < (cjTo ss k ++ ⟨#[44]⟩).size + ss[k].size) := by rw [ByteArray.size_append]; omega
        have h0' : (0 : Int) < k := by omega
        clear hgd h1 hj hg
        go_wp2_with fail
        go_round
        case rel => exact ⟨k + 1, by omega, by go_num, by rw [HF.out]⟩
        case measure => simp [intOf]; omega
      · obtain rfl : k = 0 := by omega
        have HF : Hid (cjTo ss (0 + 1) = cjTo ss 0 ++ ss[0]) := by
          rw [Hid, show cjTo ss (0 + 1) = (if 0 < 0 then cjTo ss 0 ++ ⟨#[44]⟩ else cjTo ss 0) ++ ss.getD 0 ⟨#[]⟩ from rfl, if_neg (by omega), hgd]
        rw [Nat.add_zero] at c0
        have n2 : ¬ (9223372036854775807 < (cjTo ss 0).size + ss[0].size) := by omega
        clear hgd h1 hj hg
        go_wp2_with fail
        go_round
        case rel => exact ⟨0 + 1, by omega, by go_num, by rw [HF.out]⟩
        case measure => simp [intOf]; omega
    · obtain rfl : k = ss.length := by omega
      go_wp2_with fail
      go_ret
      exact ⟨rfl, rfl⟩
end Go.Proofs.YtnkaoeijcdchiaaGreatDoor.G
namespace Go.Proofs.YtnkaoeijcdchiaaGreatDoor.G
open Go.ChangeShapes Go.WideShapes Go.ChangeAt Go.RowKit
set_option linter.unusedVariables false

theorem app_str (x : List ByteArray) (z : ByteArray) (v : Value) (base h : Nat) (W : World) (ho : W.ownsRow base 9 1 v x.length (kV x)) (hu : W.heap[h]? = some (.cells #[.string z] 9 (0, 0))) (hk : x.length ≤ 1048576) (hb : base ≤ W.heap.size) :
    ∃ g cap W', (Builtin.append_ #[27, 27] 27 #[v, .slice (some ⟨h, 0, none⟩) 1 1]).run Tryz.prog W = .ok (.slice (some ⟨g, 0, none⟩) (x.length + 1) cap) W' ∧ W'.ownsRow base 9 1 (.slice (some ⟨g, 0, none⟩) (x.length + 1) cap) (x.length + 1) (kV (x ++ [z])) ∧ W.grownBy W' v.ownBlock ∧ (v.ownBlock = some g ∨ g = W.heap.size) ∧ g < W'.heap.size := by
  obtain ⟨i, hi, hz, hsz, hby⟩ := info_str
  have e : kV (x ++ [z]) = kV x ++ [.string z] := by simp [kV]
  rw [e]
  exact run_append_lies (P := Tryz.prog) W 27 27 base 9 i _ 1 16 Tryz.underlying27 hi hz hsz hby rfl (by decide) v x.length (kV x) ho ⟨h, 0, none⟩ 1 1 [.string z] rfl (fun j y hx => by
    have hj : j = 0 := by have := (List.getElem?_eq_some_iff.1 hx).1; simpa using this
    subst hj
    simp only [List.getElem?_cons_zero, Option.some.injEq] at hx
    subst hx
    rw [add_plain]
    exact row_cell hu 0) (fun y hy => by rw [List.mem_singleton.1 hy]; rfl) (by omega) (by unfold maxLen; omega) (by omega) hb W.heap.size rfl
theorem wpList_app_str {P : Program} {ops : Array Oper} {rest : List Oper} {o : Oper} {a : Act} {Q : Exit → Act → World → Prop} {w : World} (hgd : o.guard = none) (s x : Operand) (t : TypeId)
    (ho : o.op = .call { callee := .builtin .append, args := #[s, x], argTypes := #[t, t] }) (sv xv rv : Value) (w' : World) (hs : a.eval s = sv) (hx : a.eval x = xv)
    (hr : (Builtin.append_ #[t, t] o.type #[sv, xv]).run P w = .ok rv w') (h : wpList P ops Q rest (a.put o.dst rv) w') : wpList P ops Q (o :: rest) a w := by
  refine wpList_plain hgd fun K hK => ?_
  unfold Oper.wp execOp
  simp only [ho, resolve, invoke, builtin, Sem.run_bind, Sem.run_pure, Result.andThen_ok, List.map_toArray, List.map_cons, List.map_nil, hs, hx, hr]
  exact hK _ _ h
theorem own_setK {w : World} {base size n : Nat} {e : TypeId} {v : Value} {xs : List Value} (h : w.ownsRow base e size v n xs) {w' : World} (hk : ∀ g, v.ownBlock = some g → w'.heap[g]? = w.heap[g]?) : w'.ownsRow base e size v n xs := by
  refine ⟨h.1, ?_⟩
  rcases h.2 with h0 | ⟨g, cap, cur, rfl, h1, h2, h3⟩
  · exact .inl h0
  · exact .inr ⟨g, cap, cur, rfl, h1, (hk g rfl).trans h2, h3⟩
theorem own_baseK {w : World} {base size n : Nat} {e : TypeId} {v : Value} {xs : List Value} (h : w.ownsRow base e size v n xs) (g : Nat) (hg : v.ownBlock = some g) : base ≤ g := by
  rcases h.2 with ⟨e, _⟩ | ⟨g', cap, cur, e, h1, _⟩
  · subst e; cases hg
  · subst e
    simp only [Value.ownBlock, Option.some.injEq] at hg
    omega
theorem own_ltK {w : World} {base size n : Nat} {e : TypeId} {v : Value} {xs : List Value} (h : w.ownsRow base e size v n xs) (g : Nat) (hg : v.ownBlock = some g) : g < w.heap.size := by
  rcases h.2 with ⟨e, _⟩ | ⟨g', cap, cur, e, h1, h2, _⟩
  · subst e; cases hg
  · subst e
    simp only [Value.ownBlock, Option.some.injEq] at hg
    subst hg
    exact (Array.getElem?_eq_some_iff.1 h2).1
theorem own_belowK {w w' : World} {base size n : Nat} {e : TypeId} {v : Value} {xs : List Value} (h : w.ownsRow base e size v n xs) (hb : Below w.heap.size w w') : w'.ownsRow base e size v n xs :=
  own_setK h (fun g hg => hb.block g (own_ltK h g hg))
theorem Ous.len_size : ∀ l : Ous, l.len ≤ l.size
  | .nil => Nat.le_refl _
  | .cons h sub rest => by have := Ous.len_size rest; simp only [Ous.len, Ous.size]; omega
theorem words_cons (ob : Bool) (ks : List ByteArray) (i : Nat) (h : Oh) (sub rest : Ous) : wordsO ob (ks.drop i) (.cons h sub rest) = keyed ob (ks.getD i ⟨#[]⟩) (outT h sub) :: wordsO ob (ks.drop (i + 1)) rest := by
  rw [wordsO, List.tail_drop, List.headD_eq_head?_getD, List.head?_drop, List.getD_eq_getElem?_getD]; rfl
def TextOK (d : Nat) : Prop := ∀ (h : Oh) (sub : Ous) (a1 a2 : Option Addr) (c1 c2 : Nat) (w : World), KeRow 0 w.heap.size w a1 h.keys → OuRow 0 w.heap.size w a2 sub → outB d h sub = true →
    Calls Tryz.prog 82 #[.agg #[.int .i64 h.k, .int .i64 h.n, .string h.t, .slice a1 h.keys.length c1, .slice a2 sub.len c2]] w fun e w' => e = .returned (.string (outT h sub)) ∧ Below w.heap.size w w'
set_option maxHeartbeats 8000000 in
set_option maxRecDepth 20000 in
theorem spec_text : ∀ d : Nat, d ≤ 20 → TextOK d := by
  intro d
  induction d with
  | zero => intro _ h sub a1 a2 c1 c2 w _ _ ho; rw [outB_zero] at ho; cases ho
  | succ d ih =>
    intro hd h sub a1 a2 c1 c2 w r1 r2 ho
    obtain ⟨_, hh, hok, hsz⟩ := outB_all ho
    rw [Nat.add_sub_cancel] at hok
    obtain ⟨V, hV⟩ : ∃ V, V = w.alloc (.cells #[.int .i64 h.k, .int .i64 h.n, .string h.t, .slice a1 h.keys.length c1, .slice a2 sub.len c2] 44) := ⟨_, rfl⟩
    have B0 : Below w.heap.size w V := by rw [hV]; exact (Below.refl _ _).alloc (Nat.le_refl _) _
    have c0 : V.heap[w.heap.size]? = some (.cells #[.int .i64 h.k, .int .i64 h.n, .string h.t, .slice a1 h.keys.length c1, .slice a2 sub.len c2] 44 (0, 0)) := by rw [hV]; exact heap_alloc_new _ _
    have zV := (Array.getElem?_eq_some_iff.1 c0).1
    have KV : Hid (∀ W, Below V.heap.size V W → W.heap[w.heap.size]? = some (.cells #[.int .i64 h.k, .int .i64 h.n, .string h.t, .slice a1 h.keys.length c1, .slice a2 sub.len c2] 44 (0, 0)) ∧ KeRow 0 W.heap.size W a1 h.keys ∧ OuFrom 0 V.heap.size W a2 0 sub ∧ Below w.heap.size w W) := fun W hW =>
      have hw := B0.trans (hW.mono B0.size)
      ⟨(hW.block _ zV).trans c0, KeRow.up r1 hw, OuFrom.keep (OuRow.up r2 B0).from_ (agree hW (Nat.le_refl _)), hw⟩
    have x0 := fun o => row_cell c0 o
    have IH : Hid (TextOK d) := ih (by omega)
    have HH : Hid (headB h sub = true) := hh
    have HOK : Hid (okO d sub = true) := hok
    have BV : Hid _ := B0
    clear r1 r2 ih c0 B0 ho hh hok
    by_cases k0 : h.k = 0
    · have HT : Hid (outT h sub = ⟨#[110, 117, 108, 108]⟩) := by unfold Hid outT valT; rw [if_pos k0]
      rw [k0] at x0 hV ⊢
      clear k0 KV
      go_enter Tryz.func82, Tryz.ntmps82
      go_upto_region 1 with fail
      rw [← hV]
      clear hV
      go_wp2_with fail
      go_ret
      exact ⟨by rw [HT.out]; rfl, BV.out⟩
    by_cases k1 : h.k = 1
    · have HT : Hid (outT h sub = ⟨(Lib.itoa h.n).toArray⟩) := by unfold Hid outT valT; rw [if_neg k0, if_pos k1]
      have hn : intO h.n = true := by
        have := HH.out
        unfold headB at this
        rw [if_neg k0, if_pos k1] at this
        simp only [Bool.and_eq_true] at this
        exact this.1.2
      have hn1 : -2147483648 ≤ h.n ∧ h.n ≤ 2147483647 := by simpa [intO] using hn
      rw [k1] at x0 hV ⊢
      clear hn k1 k0 KV
      go_enter Tryz.func82, Tryz.ntmps82
      go_upto_region 1 with fail
      rw [← hV]
      clear hV
      go_wp2_with fail
      refine (digs_any h.n _ (by omega) (by omega)).mono ?_
      rintro e w1 ⟨rfl, hb1⟩
      have Q : Hid (Below w.heap.size w w1) := BV.out.trans (hb1.mono BV.out.size)
      clear hb1
      go_wp2_with fail
      go_ret
      exact ⟨by rw [HT.out]; rfl, Q.out⟩
    by_cases k2 : h.k = 2
    · have HT : Hid (outT h sub = ⟨#[34]⟩ ++ h.t ++ ⟨#[34]⟩) := by unfold Hid outT valT; rw [if_neg k0, if_neg k1, if_pos k2]
      have hn : h.t.size ≤ 40 := by
        have := HH.out
        unfold headB at this
        rw [if_neg k0, if_neg k1, if_pos k2] at this
        simp only [Bool.and_eq_true] at this
        exact name_size this.2
      rw [k2] at x0 hV ⊢
      clear k0 k1 k2 KV
      have n1 : ¬ (9223372036854775807 < (⟨#[34]⟩ : ByteArray).size + h.t.size) := by have : (⟨#[34]⟩ : ByteArray).size = 1 := rfl; omega
      have n2 : ¬ (9223372036854775807 < ((⟨#[34]⟩ : ByteArray) ++ h.t).size + (⟨#[34]⟩ : ByteArray).size) := by rw [ByteArray.size_append]; have : (⟨#[34]⟩ : ByteArray).size = 1 := rfl; omega
      have n3 : ¬ (9223372036854775807 < 1 + h.t.size) := by omega
      have n4 : ¬ (9223372036854775807 < ((⟨#[34]⟩ : ByteArray) ++ h.t).size + 1) := by rw [ByteArray.size_append]; have : (⟨#[34]⟩ : ByteArray).size = 1 := rfl; omega
      go_enter Tryz.func82, Tryz.ntmps82
      go_upto_region 1 with fail
      rw [← hV]
      clear hV
      go_wp2_with fail
      go_ret
      exact ⟨by rw [HT.out]; rfl, BV.out⟩
    by_cases k3 : h.k = 3
    · have HT : Hid (outT h sub = ⟨#[91]⟩ ++ cj (wordsO false h.keys sub) ++ ⟨#[93]⟩) := by unfold Hid outT valT endsA endsB; rw [k3]; rfl
      have HWS : Hid (sumW (wordsO false h.keys sub) ≤ 120 * sub.size) := words_size sub d _ _ HOK.out (fun e => head_keys HH.out (by rw [k3]; cases e))
      rw [k3] at x0 hV KV ⊢
      clear k0 k1 k2 k3 HH
      obtain ⟨wa, hwa⟩ : ∃ x : World, x = V.alloc (.cells #[] 9) := ⟨_, rfl⟩
      have ba : Below V.heap.size V wa := by rw [hwa]; exact (Below.refl _ _).alloc (Nat.le_refl _) _
      have ca : wa.heap[V.heap.size]? = some (.cells #[] 9 (0, 0)) := by rw [hwa]; exact heap_alloc_new _ _
      have BA : Hid (Below V.heap.size V wa) := ba
      have OA : Hid (wa.ownsRow V.heap.size 9 1 (.slice (some ⟨V.heap.size, 0, none⟩) 0 0) 0 []) := ⟨rfl, .inr ⟨_, 0, #[], rfl, Nat.le_refl _, ca, Nat.le_refl _, Nat.zero_le _, rfl, rfl⟩⟩
      have FA : Hid (OuFrom 0 V.heap.size V a2 0 sub) := (KV.out _ (Below.refl _ _)).2.2.1
      clear ba ca
      go_enter Tryz.func82, Tryz.ntmps82
      go_upto_region 1 with fail
      rw [← hV]
      clear hV
      go_wp2_with fail
      rw [← hwa]
      clear hwa x0
      go_loopw [4, 5] (fun v y w' => ∃ (xs : List ByteArray) (rest : Ous), y = .int .i64 xs.length ∧ xs.length + rest.len = sub.len ∧ Hid (rest.size ≤ sub.size) ∧ Hid (w'.ownsRow V.heap.size 9 1 v xs.length (kV xs)) ∧ Hid (Below V.heap.size V w') ∧ Hid (OuFrom 0 V.heap.size V a2 xs.length rest) ∧ Hid (okO d rest = true) ∧ Hid (wordsO false h.keys sub = xs ++ wordsO false (h.keys.drop xs.length) rest)) (fun _ y _ => sub.len - (intOf y).toNat)
      case atStart => exact ⟨[], sub, rfl, by simp, Nat.le_refl _, OA, BA, FA, HOK, by simp [Hid]⟩
      case round =>
        obtain ⟨wo, rfl⟩ : ∃ x, x = wr := ⟨_, rfl⟩
        obtain ⟨xs, rest, rfl, hi, HRS, HO, HB, HF, HD, HW⟩ := hrel
        have T0 := KV.out _ HB.out
        have x0 := fun o => row_cell T0.1 o
        have HBW : Hid (Below w.heap.size w wo) := T0.2.2.2
        have HKR : Hid (KeRow 0 wo.heap.size wo a1 h.keys) := T0.2.1
        clear T0
        cases rest with
        | nil =>
          simp only [Ous.len, Nat.add_zero] at hi
          have HWE : Hid (wordsO false h.keys sub = xs) := by rw [Hid, HW.out, wordsO, List.append_nil]
          have HZ : Hid (sumW xs ≤ 479880) := by rw [Hid, ← HWE.out]; have := HWS.out; omega
          obtain ⟨a', c', hv, hrow⟩ := kV_row HO.out
          have HRW : Hid _ := hrow
          subst hv
          have hcz := cj_size xs
          have hcz2 := HZ.out
          obtain ⟨z, hz⟩ : ∃ z, z = cj xs := ⟨_, rfl⟩
          have HC : Hid (∀ W : World, KeRow 0 W.heap.size W a' xs → Calls Tryz.prog 108 #[.slice a' xs.length c', .string ⟨#[44]⟩] W fun e w' => e = .returned (.string z) ∧ w' = W) := fun W hW => by rw [hz]; exact spec_cj a' c' xs W hW (by omega)
          have HT2 : Hid (outT h sub = ⟨#[91]⟩ ++ z ++ ⟨#[93]⟩) := by rw [Hid, HT.out, HWE.out, hz]
          have n1 : ¬ (9223372036854775807 < (⟨#[91]⟩ : ByteArray).size + z.size) := by have : (⟨#[91]⟩ : ByteArray).size = 1 := rfl; rw [hz]; omega
          have n2 : ¬ (9223372036854775807 < ((⟨#[91]⟩ : ByteArray) ++ z).size + (⟨#[93]⟩ : ByteArray).size) := by rw [ByteArray.size_append, hz]; have : (⟨#[91]⟩ : ByteArray).size = 1 := rfl; have : (⟨#[93]⟩ : ByteArray).size = 1 := rfl; omega
          have n3 : ¬ (9223372036854775807 < 1 + z.size) := by rw [hz]; omega
          have n4 : ¬ (9223372036854775807 < ((⟨#[91]⟩ : ByteArray) ++ z).size + 1) := by rw [ByteArray.size_append, hz]; have : (⟨#[91]⟩ : ByteArray).size = 1 := rfl; omega
          have x1 : (ByteArray.extract ⟨#[91, 93]⟩ 0 1) = ⟨#[91]⟩ := rfl
          have x2 : (ByteArray.extract ⟨#[91, 93]⟩ 1 2) = ⟨#[93]⟩ := rfl
          rw [← hi] at x0 ⊢
          clear hrow hz hcz hcz2 hi
          go_upto_region 19 with fail
          go_quiet ((first | (go_at_call 108; exact Calls.quiet_of_same (HC.out _ HRW.out))))
          go_wp2_with fail
          go_ret
          exact ⟨by rw [HT2.out]; rfl, HBW.out.trans ⟨rfl, rfl, rfl, Nat.le_refl _, fun _ _ => rfl⟩⟩
        | cons h' sub' rest =>
          have hlt : (xs.length : Int) < sub.len := by simp only [Ous.len] at hi; omega
          have hiN : xs.length < sub.len := by omega
          obtain ⟨b, o, a1', c1', a2', c2', ha, _, hbl, d0, d1, d2, d3, d4, hc', r1', r2', _⟩ := OuFrom.step (OuFrom.keep HF.out (agree HB.out (Nat.le_refl _)))
          have HF2 : Hid (OuFrom 0 V.heap.size V a2 (xs.length + 1) rest) := by
            obtain ⟨_, _, _, _, _, _, _, _, _, _, _, _, _, _, _, _, _, rf9⟩ := OuFrom.step HF.out
            exact rf9
          have hd2 := HD.out
          rw [okO_cons, Bool.and_eq_true] at hd2
          have D2 : Hid (okO d rest = true) := hd2.2
          have hrs := HRS.out
          simp only [Ous.size] at hrs
          have HRS2 : Hid (rest.size ≤ sub.size) := by rw [Hid]; omega
          have HOB : Hid (outB d h' sub' = true) := by
            unfold Hid outB
            rw [hd2.1, Bool.true_and, decide_eq_true_eq]
            omega
          have hzb := HB.out.size
          have R1 : Hid (KeRow 0 wo.heap.size wo a1' h'.keys) := KeRow.wide r1' (Nat.le_refl _) hzb
          have R2 : Hid (OuRow 0 wo.heap.size wo a2' sub') := OuRow.wide r2' (Nat.le_refl _) hzb
          have HZS : Hid ((outT h' sub').size ≤ 480042) := outT_size HOB.out
          subst ha
          clear r1' r2' hd2 hrs HRS HF HD
          go_upto_region 15 with fail
          go_wp2_with fail
          refine (IH.out h' sub' a1' a2' c1' c2' _ R1.out R2.out HOB.out).mono ?_
          rintro e w2 ⟨rfl, b2⟩
          have hB2 : Below V.heap.size V w2 := HB.out.trans (b2.mono HB.out.size)
          have O2 : w2.ownsRow V.heap.size 9 1 u4 xs.length (kV xs) := own_belowK HO.out b2
          have T2 := KV.out _ hB2
          have x2 := fun o => row_cell T2.1 o
          have HW2 : Hid (wordsO false h.keys sub = (xs ++ [keyed false (h.keys.getD xs.length ⟨#[]⟩) (outT h' sub')]) ++ wordsO false (h.keys.drop (xs.length + 1)) rest) := by rw [Hid, HW.out, words_cons]; simp
          have hzs := HZS.out
          obtain ⟨s, hs⟩ : ∃ s, s = outT h' sub' := ⟨_, rfl⟩
          rw [← hs] at HW2 hzs ⊢
          clear hs x0 HKR HBW HZS
          obtain ⟨t, ht⟩ : ∃ t, t = s := ⟨_, rfl⟩
          have HKY : Hid (keyed false (h.keys.getD xs.length ⟨#[]⟩) s = t) := by rw [Hid, ht]; rfl
          rw [HKY.out] at HW2
          obtain ⟨wb, hwb⟩ : ∃ x : World, x = w2.alloc (.cells #[.string t] 9) := ⟨_, rfl⟩
          have bb : Below w2.heap.size w2 wb := by rw [hwb]; exact (Below.refl _ _).alloc (Nat.le_refl _) _
          have cb : wb.heap[w2.heap.size]? = some (.cells #[.string t] 9 (0, 0)) := by rw [hwb]; exact heap_alloc_new _ _
          have z2 := hB2.size
          have zb := bb.size
          have hsl : sub.len ≤ 1048576 := by have := Ous.len_size sub; omega
          obtain ⟨g, cap, W', hrun, o1, o2, _, o3⟩ := app_str xs t u4 V.heap.size w2.heap.size wb (own_belowK O2 bb) cb (by omega) (by omega)
          have HRUN : Hid _ := hrun
          have O3 : Hid (W'.ownsRow V.heap.size 9 1 (.slice (some ⟨g, 0, none⟩) (xs.length + 1) cap) (xs ++ [t]).length (kV (xs ++ [t]))) := by rw [Hid]; simpa using o1
          have B3 : Hid (Below V.heap.size V W') := Below.grown (hB2.trans (bb.mono z2)) o2 (by omega) (fun k hk => own_baseK O2 k hk)
          have F3 : Hid (OuFrom 0 V.heap.size V (some ⟨b, o, none⟩) (xs ++ [t]).length rest) := by rw [Hid, List.length_append]; exact HF2.out
          have W3 : Hid (wordsO false h.keys sub = (xs ++ [t]) ++ wordsO false (h.keys.drop (xs ++ [t]).length) rest) := by rw [Hid, List.length_append]; exact HW2.out
          clear hrun o1 o2 o3 bb cb O2 T2 b2 hB2 z2 zb HW2 HF2
          rw [ht] at hwb
          clear HKY
          go_wp2_with (first | (at_builtin; rw [← hwb]; refine wpList_app_str rfl _ _ _ rfl _ _ _ _ rfl rfl HRUN.out ?_) | fail)
          exact ⟨⟨xs ++ [t], rest, by simp only [List.length_append, List.length_singleton]; go_num, by simp only [Ous.len] at hi; simp; omega, HRS2, O3, B3, F3, D2, W3⟩, by simp [intOf]; omega⟩
    have k4 : h.k = 4 := by
      have h1 := HH.out
      unfold headB at h1
      rw [if_neg k0, if_neg k1, if_neg k2, if_neg k3] at h1
      by_cases k4 : h.k = 4
      · exact k4
      · rw [if_neg k4] at h1; cases h1
    · skip
      have HT : Hid (outT h sub = ⟨#[123]⟩ ++ cj (wordsO true h.keys sub) ++ ⟨#[125]⟩) := by unfold Hid outT valT endsA endsB; rw [k4]; rfl
      have HWS : Hid (sumW (wordsO true h.keys sub) ≤ 120 * sub.size) := words_size sub d _ _ HOK.out (fun e => head_keys HH.out (by rw [k4]; rfl))
      have HKL : Hid (h.keys.length = sub.len) := by
        have h1 := HH.out
        unfold headB at h1
        rw [k4] at h1
        simp at h1
        exact h1.1.2
      have HKS : Hid (∀ k ∈ h.keys, k.size ≤ 40) := head_keys HH.out (by rw [k4]; rfl)
      rw [k4] at x0 hV KV ⊢
      clear k0 k1 k2 k3 k4 HH
      obtain ⟨wa, hwa⟩ : ∃ x : World, x = V.alloc (.cells #[] 9) := ⟨_, rfl⟩
      have ba : Below V.heap.size V wa := by rw [hwa]; exact (Below.refl _ _).alloc (Nat.le_refl _) _
      have ca : wa.heap[V.heap.size]? = some (.cells #[] 9 (0, 0)) := by rw [hwa]; exact heap_alloc_new _ _
      have BA : Hid (Below V.heap.size V wa) := ba
      have OA : Hid (wa.ownsRow V.heap.size 9 1 (.slice (some ⟨V.heap.size, 0, none⟩) 0 0) 0 []) := ⟨rfl, .inr ⟨_, 0, #[], rfl, Nat.le_refl _, ca, Nat.le_refl _, Nat.zero_le _, rfl, rfl⟩⟩
      have FA : Hid (OuFrom 0 V.heap.size V a2 0 sub) := (KV.out _ (Below.refl _ _)).2.2.1
      clear ba ca
      go_enter Tryz.func82, Tryz.ntmps82
      go_upto_region 1 with fail
      rw [← hV]
      clear hV
      go_wp2_with fail
      rw [← hwa]
      clear hwa x0
      go_loopw [4, 5] (fun v y w' => ∃ (xs : List ByteArray) (rest : Ous), y = .int .i64 xs.length ∧ xs.length + rest.len = sub.len ∧ Hid (rest.size ≤ sub.size) ∧ Hid (w'.ownsRow V.heap.size 9 1 v xs.length (kV xs)) ∧ Hid (Below V.heap.size V w') ∧ Hid (OuFrom 0 V.heap.size V a2 xs.length rest) ∧ Hid (okO d rest = true) ∧ Hid (wordsO true h.keys sub = xs ++ wordsO true (h.keys.drop xs.length) rest)) (fun _ y _ => sub.len - (intOf y).toNat)
      case atStart => exact ⟨[], sub, rfl, by simp, Nat.le_refl _, OA, BA, FA, HOK, by simp [Hid]⟩
      case round =>
        obtain ⟨wo, rfl⟩ : ∃ x, x = wr := ⟨_, rfl⟩
        obtain ⟨xs, rest, rfl, hi, HRS, HO, HB, HF, HD, HW⟩ := hrel
        have T0 := KV.out _ HB.out
        have x0 := fun o => row_cell T0.1 o
        have HBW : Hid (Below w.heap.size w wo) := T0.2.2.2
        have HKR : Hid (KeRow 0 wo.heap.size wo a1 h.keys) := T0.2.1
        clear T0
        cases rest with
        | nil =>
          simp only [Ous.len, Nat.add_zero] at hi
          have HWE : Hid (wordsO true h.keys sub = xs) := by rw [Hid, HW.out, wordsO, List.append_nil]
          have HZ : Hid (sumW xs ≤ 479880) := by rw [Hid, ← HWE.out]; have := HWS.out; omega
          obtain ⟨a', c', hv, hrow⟩ := kV_row HO.out
          have HRW : Hid _ := hrow
          subst hv
          have hcz := cj_size xs
          have hcz2 := HZ.out
          obtain ⟨z, hz⟩ : ∃ z, z = cj xs := ⟨_, rfl⟩
          have HC : Hid (∀ W : World, KeRow 0 W.heap.size W a' xs → Calls Tryz.prog 108 #[.slice a' xs.length c', .string ⟨#[44]⟩] W fun e w' => e = .returned (.string z) ∧ w' = W) := fun W hW => by rw [hz]; exact spec_cj a' c' xs W hW (by omega)
          have HT2 : Hid (outT h sub = ⟨#[123]⟩ ++ z ++ ⟨#[125]⟩) := by rw [Hid, HT.out, HWE.out, hz]
          have n1 : ¬ (9223372036854775807 < (⟨#[123]⟩ : ByteArray).size + z.size) := by have : (⟨#[123]⟩ : ByteArray).size = 1 := rfl; rw [hz]; omega
          have n2 : ¬ (9223372036854775807 < ((⟨#[123]⟩ : ByteArray) ++ z).size + (⟨#[125]⟩ : ByteArray).size) := by rw [ByteArray.size_append, hz]; have : (⟨#[123]⟩ : ByteArray).size = 1 := rfl; have : (⟨#[125]⟩ : ByteArray).size = 1 := rfl; omega
          have n3 : ¬ (9223372036854775807 < 1 + z.size) := by rw [hz]; omega
          have n4 : ¬ (9223372036854775807 < ((⟨#[123]⟩ : ByteArray) ++ z).size + 1) := by rw [ByteArray.size_append, hz]; have : (⟨#[123]⟩ : ByteArray).size = 1 := rfl; omega
          have x1 : (ByteArray.extract ⟨#[123, 125]⟩ 0 1) = ⟨#[123]⟩ := rfl
          have x2 : (ByteArray.extract ⟨#[123, 125]⟩ 1 2) = ⟨#[125]⟩ := rfl
          rw [← hi] at x0 ⊢
          clear hrow hz hcz hcz2 hi
          go_upto_region 19 with fail
          go_quiet ((first | (go_at_call 108; exact Calls.quiet_of_same (HC.out _ HRW.out))))
          go_wp2_with fail
          go_ret
          exact ⟨by rw [HT2.out]; rfl, HBW.out.trans ⟨rfl, rfl, rfl, Nat.le_refl _, fun _ _ => rfl⟩⟩
        | cons h' sub' rest =>
          have hlt : (xs.length : Int) < sub.len := by simp only [Ous.len] at hi; omega
          have hiN : xs.length < sub.len := by omega
          obtain ⟨b, o, a1', c1', a2', c2', ha, _, hbl, d0, d1, d2, d3, d4, hc', r1', r2', _⟩ := OuFrom.step (OuFrom.keep HF.out (agree HB.out (Nat.le_refl _)))
          have HF2 : Hid (OuFrom 0 V.heap.size V a2 (xs.length + 1) rest) := by
            obtain ⟨_, _, _, _, _, _, _, _, _, _, _, _, _, _, _, _, _, rf9⟩ := OuFrom.step HF.out
            exact rf9
          have hd2 := HD.out
          rw [okO_cons, Bool.and_eq_true] at hd2
          have D2 : Hid (okO d rest = true) := hd2.2
          have hrs := HRS.out
          simp only [Ous.size] at hrs
          have HRS2 : Hid (rest.size ≤ sub.size) := by rw [Hid]; omega
          have HOB : Hid (outB d h' sub' = true) := by
            unfold Hid outB
            rw [hd2.1, Bool.true_and, decide_eq_true_eq]
            omega
          have hzb := HB.out.size
          have R1 : Hid (KeRow 0 wo.heap.size wo a1' h'.keys) := KeRow.wide r1' (Nat.le_refl _) hzb
          have R2 : Hid (OuRow 0 wo.heap.size wo a2' sub') := OuRow.wide r2' (Nat.le_refl _) hzb
          have HZS : Hid ((outT h' sub').size ≤ 480042) := outT_size HOB.out
          subst ha
          clear r1' r2' hd2 hrs HRS HF HD
          go_upto_region 15 with fail
          go_wp2_with fail
          refine (IH.out h' sub' a1' a2' c1' c2' _ R1.out R2.out HOB.out).mono ?_
          rintro e w2 ⟨rfl, b2⟩
          have hB2 : Below V.heap.size V w2 := HB.out.trans (b2.mono HB.out.size)
          have O2 : w2.ownsRow V.heap.size 9 1 u4 xs.length (kV xs) := own_belowK HO.out b2
          have T2 := KV.out _ hB2
          have x2 := fun o => row_cell T2.1 o
          have HW2 : Hid (wordsO true h.keys sub = (xs ++ [keyed true (h.keys.getD xs.length ⟨#[]⟩) (outT h' sub')]) ++ wordsO true (h.keys.drop (xs.length + 1)) rest) := by rw [Hid, HW.out, words_cons]; simp
          have hzs := HZS.out
          obtain ⟨s, hs⟩ : ∃ s, s = outT h' sub' := ⟨_, rfl⟩
          rw [← hs] at HW2 hzs ⊢
          clear hs x0 HKR HBW HZS
          have hkl : xs.length < h.keys.length := by rw [HKL.out]; exact hiN
          have hkl' : (xs.length : Int) < h.keys.length := by omega
          obtain ⟨b9, o9, ha9, _, hbl9, e9⟩ := KeRow.cells T2.2.1 xs.length hkl
          have hgd : h.keys.getD xs.length ⟨#[]⟩ = h.keys[xs.length] := by rw [List.getD_eq_getElem?_getD, List.getElem?_eq_getElem hkl]; rfl
          rw [hgd] at HW2
          have hks := HKS.out _ (List.getElem_mem hkl)
          obtain ⟨ky, hky⟩ : ∃ s, s = h.keys[xs.length] := ⟨_, rfl⟩
          rw [← hky] at HW2 e9 hks
          subst ha9
          have m1 : (⟨#[34]⟩ : ByteArray).size = 1 := rfl
          have m2 : (⟨#[34, 58]⟩ : ByteArray).size = 2 := rfl
          have n1 : ¬ (9223372036854775807 < (⟨#[34]⟩ : ByteArray).size + ky.size) := by omega
          have n2 : ¬ (9223372036854775807 < ((⟨#[34]⟩ : ByteArray) ++ ky).size + (⟨#[34, 58]⟩ : ByteArray).size) := by rw [ByteArray.size_append]; omega
          have n3 : ¬ (9223372036854775807 < ((⟨#[34]⟩ : ByteArray) ++ ky ++ ⟨#[34, 58]⟩).size + s.size) := by rw [ByteArray.size_append, ByteArray.size_append]; omega
          obtain ⟨t, ht⟩ : ∃ t, t = (⟨#[34]⟩ : ByteArray) ++ ky ++ ⟨#[34, 58]⟩ ++ s := ⟨_, rfl⟩
          have HKY : Hid (keyed true ky s = t) := by rw [Hid, ht]; rfl
          rw [HKY.out] at HW2
          clear m1 m2 hgd hky
          obtain ⟨wb, hwb⟩ : ∃ x : World, x = w2.alloc (.cells #[.string t] 9) := ⟨_, rfl⟩
          have bb : Below w2.heap.size w2 wb := by rw [hwb]; exact (Below.refl _ _).alloc (Nat.le_refl _) _
          have cb : wb.heap[w2.heap.size]? = some (.cells #[.string t] 9 (0, 0)) := by rw [hwb]; exact heap_alloc_new _ _
          have z2 := hB2.size
          have zb := bb.size
          have hsl : sub.len ≤ 1048576 := by have := Ous.len_size sub; omega
          obtain ⟨g, cap, W', hrun, o1, o2, _, o3⟩ := app_str xs t u4 V.heap.size w2.heap.size wb (own_belowK O2 bb) cb (by omega) (by omega)
          have HRUN : Hid _ := hrun
          have O3 : Hid (W'.ownsRow V.heap.size 9 1 (.slice (some ⟨g, 0, none⟩) (xs.length + 1) cap) (xs ++ [t]).length (kV (xs ++ [t]))) := by rw [Hid]; simpa using o1
          have B3 : Hid (Below V.heap.size V W') := Below.grown (hB2.trans (bb.mono z2)) o2 (by omega) (fun k hk => own_baseK O2 k hk)
          have F3 : Hid (OuFrom 0 V.heap.size V (some ⟨b, o, none⟩) (xs ++ [t]).length rest) := by rw [Hid, List.length_append]; exact HF2.out
          have W3 : Hid (wordsO true h.keys sub = (xs ++ [t]) ++ wordsO true (h.keys.drop (xs ++ [t]).length) rest) := by rw [Hid, List.length_append]; exact HW2.out
          clear hrun o1 o2 o3 bb cb O2 T2 b2 hB2 z2 zb HW2 HF2
          rw [ht] at hwb
          clear HKY
          go_wp2_with (first | (at_builtin; rw [← hwb]; refine wpList_app_str rfl _ _ _ rfl _ _ _ _ rfl rfl HRUN.out ?_) | fail)
          exact ⟨⟨xs ++ [t], rest, by simp only [List.length_append, List.length_singleton]; go_num, by simp only [Ous.len] at hi; simp; omega, HRS2, O3, B3, F3, D2, W3⟩, by simp [intOf]; omega⟩
end Go.Proofs.YtnkaoeijcdchiaaGreatDoor.G
namespace Go.Proofs.YtnkaoeijcdchiaaGreatDoor.G
open Go.ChangeShapes Go.WideShapes Go.ChangeAt Go.RowKit
set_option linter.unusedVariables false

set_option maxHeartbeats 1000000 in
theorem number_nil (s : ByteArray) (w : World) (h : s.size = 0) :
    Calls Tryz.prog 106 #[.string s] w fun e w' => e = .returned (.tuple #[.int .i64 0, .bool false]) ∧ w' = w := by
  go_enter Tryz.func106, Tryz.ntmps106
  go_wp2_with fail
  go_ret2
  exact ⟨rfl, rfl⟩
theorem numT_nil {s : ByteArray} (h : s.size = 0) : numT s.toList = none := by
  have e : s.toList = [] := List.length_eq_zero_iff.1 (by rw [toList_len]; exact h)
  rw [e]
  cases ht : numT [] with
  | none => rfl
  | some n => have := ((numT_iff _ _).1 ht).1; cases this
set_option maxHeartbeats 1000000 in
theorem int_all (s : ByteArray) (w : World) (hs : s.size ≤ 1048576) :
    Calls Tryz.prog 81 #[.string s] w fun e w' => ∃ n : Int, e = .returned (.tuple #[.int .i64 n, .bool (numT s.toList).isSome]) ∧ (∀ m, numT s.toList = some m → n = m) ∧ Below w.heap.size w w' := by
  by_cases h : 0 < s.size
  · exact int_any s w hs h
  · have h0 : s.size = 0 := by omega
    have HN : Hid (numT s.toList = none) := numT_nil h0
    have HZ : Hid (s.size = 0) := h0
    clear h h0
    go_enter Tryz.func81, Tryz.ntmps81
    go_wp2_with fail
    refine (number_nil s _ HZ.out).mono ?_
    rintro e w1 ⟨rfl, rfl⟩
    go_wp2_with fail
    go_ret2
    exact ⟨0, by rw [HN.out]; rfl, fun m hm => by (rw [HN.out] at hm; cases hm), Below.refl _ _⟩
theorem splitL_part : ∀ {l p : List UInt8}, p ∈ splitL l → p.length ≤ l.length
  | [], p, h => by simp [splitL] at h; subst h; exact Nat.le_refl _
  | c :: r, p, h => by
    rw [splitL] at h
    split at h
    · rcases List.mem_cons.1 h with rfl | h
      · exact Nat.zero_le _
      · have := splitL_part h; simp; omega
    · split at h
      · rename_i q qs he
        rcases List.mem_cons.1 h with rfl | h
        · have := splitL_part (l := r) (p := q) (by rw [he]; simp)
          simp; omega
        · have := splitL_part (l := r) (p := p) (by rw [he]; simp [h])
          simp; omega
      · rename_i he; exact absurd he (splitL_ne r)
theorem splitL_len : ∀ l : List UInt8, (splitL l).length ≤ l.length + 1
  | [] => by simp [splitL]
  | c :: r => by
    have ih := splitL_len r
    rw [splitL]
    split
    · simp; omega
    · split
      · rename_i q qs he; rw [he] at ih; simp at ih ⊢; omega
      · simp
/-- What is cut off till now, where the part under way begins, and that no point lies in it. -/
def CutAt (s : ByteArray) (xs : List ByteArray) (f i : Nat) : Prop := splitL s.toList = xs.map (·.toList) ++ splitL (s.toList.drop f) ∧ ∀ c ∈ (s.extract f i).toList, c ≠ 46
theorem CutAt.start (s : ByteArray) : CutAt s [] 0 0 := by
  refine ⟨by simp, fun c hc => ?_⟩
  rw [toList_extract] at hc
  simp at hc
theorem ext_succ (s : ByteArray) (f i : Nat) (hf : f ≤ i) (hi : i < s.size) : (s.extract f (i + 1)).toList = (s.extract f i).toList ++ [s[i]] := by
  have hg := toList_get s i hi
  rw [toList_extract, toList_extract, show i + 1 - f = (i - f) + 1 by omega, List.take_add_one, List.getElem?_drop, show f + (i - f) = i by omega, hg]
  rfl
theorem CutAt.go {s : ByteArray} {xs : List ByteArray} {f i : Nat} (h : CutAt s xs f i) (hf : f ≤ i) (hi : i < s.size) (hc : s[i] ≠ 46) : CutAt s xs f (i + 1) := by
  refine ⟨h.1, fun c hm => ?_⟩
  rw [ext_succ s f i hf hi] at hm
  rcases List.mem_append.1 hm with hm | hm
  · exact h.2 c hm
  · rw [List.mem_singleton.1 hm]; exact hc
theorem CutAt.cut {s : ByteArray} {xs : List ByteArray} {f i : Nat} (h : CutAt s xs f i) (hf : f ≤ i) (hi : i < s.size) (hc : s[i] = 46) : CutAt s (xs ++ [s.extract f i]) (i + 1) (i + 1) := by
  refine ⟨?_, fun c hm => ?_⟩
  · have e : s.toList.drop f = (s.extract f i).toList ++ 46 :: s.toList.drop (i + 1) := by
      have hg := toList_get s i hi
      rw [toList_extract, ← hc]
      have hd : s.toList.drop i = s[i] :: s.toList.drop (i + 1) := by
        have hl : i < s.toList.length := by rw [toList_len]; exact hi
        rw [List.drop_eq_getElem_cons hl]
        rw [List.getElem?_eq_getElem hl] at hg
        simp only [Option.some.injEq] at hg
        rw [hg]
      rw [← hd]
      conv => lhs; rw [← List.take_append_drop (i - f) (s.toList.drop f)]
      rw [List.drop_drop, show f + (i - f) = i by omega]
    rw [h.1, e, splitL_cut h.2]
    simp
  · rw [toList_extract] at hm
    simp at hm
theorem CutAt.fin {s : ByteArray} {xs : List ByteArray} {f : Nat} (h : CutAt s xs f s.size) (hf : f ≤ s.size) : (xs ++ [s.extract f s.size]).map (·.toList) = splitL s.toList := by
  have e : s.toList.drop f = (s.extract f s.size).toList := by
    rw [toList_extract, List.take_of_length_le (by rw [List.length_drop, toList_len]; exact Nat.le_refl _)]
  rw [h.1, e, splitL_none h.2]
  simp
theorem u8_eq {c : UInt8} (h : (c.toNat : Int) = 46) : c = 46 := u8_of (n := 46) (by decide) h
set_option maxHeartbeats 4000000 in
theorem spec_cut (s : ByteArray) (w : World) (hs : s.size ≤ 1048576) :
    Calls Tryz.prog 80 #[.string s, .int .u8 46] w fun e w' => ∃ (a : Option Addr) (c : Nat) (ps : List ByteArray), e = .returned (.slice a ps.length c) ∧ KeRow 0 w'.heap.size w' a ps ∧ ps.map (·.toList) = splitL s.toList ∧ Below w.heap.size w w' := by
  obtain ⟨V, hV⟩ : ∃ x : World, x = w.alloc (.cells #[] 9) := ⟨_, rfl⟩
  have ba : Below w.heap.size w V := by rw [hV]; exact (Below.refl _ _).alloc (Nat.le_refl _) _
  have ca : V.heap[w.heap.size]? = some (.cells #[] 9 (0, 0)) := by rw [hV]; exact heap_alloc_new _ _
  have BA : Hid (Below w.heap.size w V) := ba
  have OA : Hid (V.ownsRow w.heap.size 9 1 (.slice (some ⟨w.heap.size, 0, none⟩) 0 0) 0 []) := ⟨rfl, .inr ⟨_, 0, #[], rfl, Nat.le_refl _, ca, Nat.le_refl _, Nat.zero_le _, rfl, rfl⟩⟩
  clear ba ca
  go_enter Tryz.func80, Tryz.ntmps80
  go_wp2_with fail
  rw [← hV]
  clear hV
  go_loopw [5, 6, 7] (fun v x y w' => ∃ (xs : List ByteArray) (f i : Nat), x = .int .i64 f ∧ y = .int .i64 i ∧ f ≤ i ∧ i ≤ s.size ∧ xs.length ≤ f ∧ Hid (w'.ownsRow w.heap.size 9 1 v xs.length (kV xs)) ∧ Hid (Below w.heap.size w w') ∧ Hid (CutAt s xs f i)) (fun _ _ y _ => s.size - (intOf y).toNat)
  case atStart => exact ⟨[], 0, 0, rfl, rfl, by omega, by omega, by simp, OA, BA, CutAt.start s⟩
  case round =>
    obtain ⟨wo, rfl⟩ : ∃ x, x = wr := ⟨_, rfl⟩
    obtain ⟨xs, f, i, rfl, rfl, hf, hi, hx, HO, HB, HC⟩ := hrel
    obtain ⟨t, ht⟩ : ∃ t, t = s.extract f i := ⟨_, rfl⟩
    obtain ⟨wb, hwb⟩ : ∃ x : World, x = wo.alloc (.cells #[.string t] 9) := ⟨_, rfl⟩
    have bb : Below wo.heap.size wo wb := by rw [hwb]; exact (Below.refl _ _).alloc (Nat.le_refl _) _
    have cb : wb.heap[wo.heap.size]? = some (.cells #[.string t] 9 (0, 0)) := by rw [hwb]; exact heap_alloc_new _ _
    have z2 := HB.out.size
    have zb := bb.size
    obtain ⟨g, cap, W', hrun, o1, o2, _, o3⟩ := app_str xs t u5 w.heap.size wo.heap.size wb (own_belowK HO.out bb) cb (by omega) (by omega)
    have HRUN : Hid _ := hrun
    have O3 : Hid (W'.ownsRow w.heap.size 9 1 (.slice (some ⟨g, 0, none⟩) (xs.length + 1) cap) (xs ++ [t]).length (kV (xs ++ [t]))) := by rw [Hid]; simpa using o1
    have B3 : Hid (Below w.heap.size w W') := Below.grown (HB.out.trans (bb.mono z2)) o2 (by omega) (fun k hk => own_baseK HO.out k hk)
    clear hrun o1 o2 o3 bb cb z2 zb
    by_cases hlt : i < s.size
    · by_cases hd : (s[i].toNat : Int) = 46
      · have C3 : Hid (CutAt s (xs ++ [t]) (i + 1) (i + 1)) := by rw [Hid, ht]; exact HC.out.cut hf hlt (u8_eq hd)
        have hd' : ((s[i].toNat : Int) == 46) = true := by rw [hd]; rfl
        rw [ht] at hwb
        go_wp2_with (first | (at_builtin; rw [← hwb]; refine wpList_app_str rfl _ _ _ rfl _ _ _ _ rfl rfl HRUN.out ?_) | fail)
        exact ⟨⟨xs ++ [t], i + 1, i + 1, by go_num, by go_num, by omega, by omega, by simp; omega, O3, B3, C3⟩, by simp [intOf]; omega⟩
      · have C3 : Hid (CutAt s xs f (i + 1)) := HC.out.go hf hlt (fun e => hd (by rw [e]; rfl))
        have hd' : ((s[i].toNat : Int) == 46) = false := by rw [beq_eq_false_iff_ne]; exact hd
        clear hwb HRUN O3 B3 ht
        go_wp2_with fail
        exact ⟨⟨xs, f, i + 1, rfl, by go_num, by omega, by omega, hx, HO, HB, C3⟩, by simp [intOf]; omega⟩
    · obtain rfl : i = s.size := by omega
      have C3 : Hid ((xs ++ [t]).map (·.toList) = splitL s.toList) := by rw [Hid, ht]; exact HC.out.fin hf
      obtain ⟨a', c', hv, hrow⟩ := kV_row O3.out
      have HRW : Hid _ := hrow
      rw [ht] at hwb
      clear hrow
      go_wp2_with (first | (at_builtin; rw [← hwb]; refine wpList_app_str rfl _ _ _ rfl _ _ _ _ rfl rfl HRUN.out ?_) | fail)
      go_ret
      exact ⟨a', c', xs ++ [t], by rw [List.length_append]; first | rfl | (simp at hv ⊢; exact hv), HRW.out, C3.out, B3.out⟩
theorem partB_name {s : ByteArray} (h : nameB s = true) : partB s = true := by unfold partB; rw [h]; rfl
theorem partB_num {s : ByteArray} {n : Int} (h : nameB s = false) (hn : numT s.toList = some n) : partB s = decide (0 ≤ n) := by unfold partB placeB; rw [h, hn]; rfl
theorem partB_none {s : ByteArray} (h : nameB s = false) (hn : numT s.toList = none) : partB s = false := by unfold partB placeB; rw [h, hn]; rfl
theorem pathB_of {s : ByteArray} {ps : List ByteArray} (h : ps.map (·.toList) = splitL s.toList) : pathB s = ps.all partB := by
  unfold pathB
  rw [← h, List.all_map]
  congr 1
  funext x
  exact partL_of x
theorem all_drop {ps : List ByteArray} {k : Nat} (h : k < ps.length) : (ps.drop k).all partB = (partB ps[k] && (ps.drop (k + 1)).all partB) := by
  rw [List.drop_eq_getElem_cons h, List.all_cons]
set_option maxHeartbeats 4000000 in
theorem spec_path (s : ByteArray) (w : World) (hs : s.size ≤ 1048576) :
    Calls Tryz.prog 52 #[.string s] w fun e w' => e = .returned (.bool (pathB s)) ∧ Below w.heap.size w w' := by
  go_enter Tryz.func52, Tryz.ntmps52
  go_wp2_with fail
  refine (spec_cut s w hs).mono ?_
  rintro e w1 ⟨a, c, ps, rfl, hr, hm, hb⟩
  have HP : Hid (pathB s = ps.all partB) := pathB_of hm
  have hn : ps.length ≤ 1048577 := by
    have h1 := congrArg List.length hm
    have h2 := splitL_len s.toList
    rw [toList_len] at h2
    rw [List.length_map] at h1
    omega
  have HS : Hid (∀ x ∈ ps, x.size ≤ 1048576) := fun x hx => by
    have h1 : x.toList ∈ splitL s.toList := by rw [← hm]; exact List.mem_map.2 ⟨x, hx, rfl⟩
    have h2 := splitL_part h1
    rw [toList_len, toList_len] at h2
    omega
  have KR : Hid (∀ W, Below w1.heap.size w1 W → KeRow 0 W.heap.size W a ps ∧ Below w.heap.size w W) := fun W hW => ⟨KeRow.up hr hW, hb.trans (hW.mono hb.size)⟩
  clear hm hr hb
  go_wp2_with fail
  go_loopw [4] (fun i w' => ∃ k : Nat, k ≤ ps.length ∧ i = .int .i64 k ∧ Hid (Below w1.heap.size w1 w') ∧ Hid (pathB s = (ps.drop k).all partB)) (fun i _ => ps.length - (intOf i).toNat)
  case atStart => exact ⟨0, by omega, rfl, Below.refl _ _, HP⟩
  case round =>
    obtain ⟨wo, rfl⟩ : ∃ x, x = wr := ⟨_, rfl⟩
    obtain ⟨k, hk, rfl, HB, HD⟩ := hrel
    by_cases hlt : k < ps.length
    · obtain ⟨b, o, ha, _, hbl, c0⟩ := KeRow.cells (KR.out _ HB.out).1 k hlt
      have hz : ps[k].size ≤ 1048576 := HS.out _ (List.getElem_mem hlt)
      have HD1 : Hid (pathB s = (partB ps[k] && (ps.drop (k + 1)).all partB)) := by rw [Hid, HD.out]; exact all_drop hlt
      subst ha
      clear HD
      obtain ⟨z, hzz⟩ : ∃ z, z = ps[k] := ⟨_, rfl⟩
      rw [← hzz] at c0 hz HD1
      clear hzz
      go_wp2_with fail
      refine (int_all z _ hz).mono ?_
      rintro e w2 ⟨n, rfl, hnm, hb2⟩
      have HB2 : Hid (Below w1.heap.size w1 w2) := HB.out.trans (hb2.mono HB.out.size)
      have c2 : w2.cell? ⟨b, o + k, none⟩ = some (.string z) := (hb2.cell (p := ⟨b, o + k, none⟩) hbl).trans c0
      have HBW : Hid (Below w.heap.size w w2) := (KR.out _ HB2.out).2
      clear c0 hb2
      cases hnb : nameB z
      · cases hnt : numT z.toList with
        | none =>
          have HF : Hid (pathB s = false) := by rw [Hid, HD1.out, partB_none hnb hnt]; rfl
          simp only [Option.isSome_none]
          go_wp2_with fail
          refine (spec_nameB z _ (by unfold maxLen; omega) hnb).mono ?_
          rintro e w3 ⟨rfl, rfl⟩
          go_wp2_with fail
          go_ret
          exact ⟨by rw [HF.out]; rfl, HBW.out⟩
        | some m =>
          obtain rfl : n = m := hnm m hnt
          simp only [Option.isSome_some]
          by_cases hneg : n < 0
          · have HF : Hid (pathB s = false) := by rw [Hid, HD1.out, partB_num hnb hnt, decide_eq_false (by omega)]; rfl
            go_wp2_with fail
            refine (spec_nameB z _ (by unfold maxLen; omega) hnb).mono ?_
            rintro e w3 ⟨rfl, rfl⟩
            go_wp2_with fail
            go_ret
            exact ⟨by rw [HF.out]; rfl, HBW.out⟩
          · have HF : Hid (pathB s = (ps.drop (k + 1)).all partB) := by rw [Hid, HD1.out, partB_num hnb hnt, decide_eq_true (by omega)]; rfl
            go_wp2_with fail
            refine (spec_nameB z _ (by unfold maxLen; omega) hnb).mono ?_
            rintro e w3 ⟨rfl, rfl⟩
            go_wp2_with fail
            exact ⟨⟨k + 1, by omega, by go_num, HB2, HF⟩, by simp [intOf]; omega⟩
      · have HF : Hid (pathB s = (ps.drop (k + 1)).all partB) := by rw [Hid, HD1.out, partB_name hnb]; rfl
        generalize (numT z.toList).isSome = B
        go_wp2_with fail
        refine (spec_nameB z _ (by unfold maxLen; omega) hnb).mono ?_
        rintro e w3 ⟨rfl, rfl⟩
        go_wp2_with fail
        exact ⟨⟨k + 1, by omega, by go_num, HB2, HF⟩, by simp [intOf]; omega⟩
    · obtain rfl : k = ps.length := by omega
      have HE : Hid (pathB s = true) := by rw [Hid, HD.out, List.drop_length]; rfl
      go_wp2_with fail
      go_ret
      exact ⟨by rw [HE.out]; rfl, (KR.out _ HB.out).2⟩
end Go.Proofs.YtnkaoeijcdchiaaGreatDoor.G
