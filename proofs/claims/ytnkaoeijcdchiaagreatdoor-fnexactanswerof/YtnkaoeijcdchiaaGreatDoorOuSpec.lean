/- The specification's OutOK. -/
import Derived.Test.YtnkaoeijcdchiaaGreatDoorInts
import Derived.Deep.CutBlock
import Derived.Deep.CutRange
namespace Go.Proofs.YtnkaoeijcdchiaaGreatDoor.G
open Go.ChangeShapes Go.WideShapes Go.ChangeAt Go.RowKit
set_option linter.unusedVariables false

theorem spec_isIntO (n : Int) (w : World) {B : Bool} (hB : intO n = B) : Calls Tryz.prog 104 #[.int .i64 n] w fun e w' => e = .returned (.bool B) ∧ w' = w := by
  have HB : Hid _ := hB
  clear hB
  go_enter Tryz.func104, Tryz.ntmps104
  go_wp2_with fail
  refine (spec_in _ _ _ _).mono ?_
  rintro e w1 ⟨rfl, hw⟩
  rw [hw]
  go_wp2_with fail
  go_ret
  exact ⟨congrArg (fun b => Ending.returned (.bool b)) HB.out, rfl⟩
theorem spec_nameB (s : ByteArray) (w : World) (hs : s.size ≤ maxLen) {B : Bool} (hB : nameB s = B) : Calls Tryz.prog 77 #[.string s] w fun e w' => e = .returned (.bool B) ∧ w' = w := by
  rw [← hB]; exact spec_nameOK s w hs
set_option maxHeartbeats 1000000 in
theorem keys_in (a : Option Addr) (c : Nat) (ns : List ByteArray) (s : ByteArray) (w : World) (hr : KeRow 0 w.heap.size w a ns) (hl : ns.length ≤ 1048576) {B : Bool} (hB : hasK ns s = B) :
    Calls Tryz.prog 105 #[.slice a ns.length c, .string s] w fun e w' => e = .returned (.bool B) ∧ w' = w := by
  have HR : Hid (KeRow 0 w.heap.size w a ns) := hr
  have HB : Hid _ := hB
  clear hr hB
  go_enter Tryz.func105, Tryz.ntmps105
  go_wp2_with fail
  go_loop [5] (fun i => ∃ (k : Nat), k ≤ ns.length ∧ i = .int .i64 k ∧ Hid (hasK (ns.take k) s = false)) (fun i => ns.length - (intOf i).toNat)
  case atStart => exact ⟨0, by omega, rfl, rfl⟩
  case round =>
    obtain ⟨k, hk, rfl, HA⟩ := hrel
    by_cases hlt : k < ns.length
    case neg =>
      have HN : Hid (false = B) := by have := HA.out; rw [List.take_of_length_le (by omega), HB.out] at this; exact this.symm
      go_wp2_with fail
      go_ret
      exact ⟨congrArg (fun b => Ending.returned (.bool b)) HN.out, rfl⟩
    obtain ⟨b, o, ha, _, hbl, d0⟩ := KeRow.cells HR.out k hlt
    subst ha
    cases he : (ns[k].toList == s.toList) with
    | false =>
      have HN : Hid (hasK (ns.take (k + 1)) s = false) := by rw [Hid, hasK_take hlt, HA.out, he]; rfl
      go_wp2_with fail
      go_round
      case rel => exact ⟨k + 1, by omega, by go_num, HN⟩
      case measure => simp [intOf]; omega
    | true =>
      have HN : Hid (true = B) := by rw [Hid, ← HB.out]; exact (hasK_of hlt he).symm
      go_wp2_with fail
      go_ret
      exact ⟨congrArg (fun b => Ending.returned (.bool b)) HN.out, rfl⟩
/-- What l08OK tells. -/
def OkS (w : World) (d : Nat) (h : Oh) (sub : Ous) (e : Ending) (w' : World) : Prop := (∃ n : Int, e = .returned (.tuple #[.int .i64 n, .bool (outB d h sub)]) ∧ 0 ≤ n ∧ n ≤ 4000 ∧ (outB d h sub = true → n = 1 + sub.size)) ∧ Below w.heap.size w w'
theorem OkS.mk {w w' : World} {d : Nat} {h : Oh} {sub : Ous} {n : Int} {b : Bool} (hb : outB d h sub = b) (h0 : 0 ≤ n) (h1 : n ≤ 4000) (hn : b = true → n = 1 + sub.size) (hw : Below w.heap.size w w') : OkS w d h sub (.returned (.tuple #[.int .i64 n, .bool b])) w' :=
  ⟨⟨n, by rw [hb], h0, h1, fun e => hn (hb.symm.trans e)⟩, hw⟩
def SpecOK (d : Nat) : Prop := ∀ (h : Oh) (sub : Ous) (a1 a2 : Option Addr) (c1 c2 : Nat) (w : World), KeRow 0 w.heap.size w a1 h.keys → h.keys.length ≤ c1 → OuRow 0 w.heap.size w a2 sub → OhBd 1048576 h → sub.len ≤ 1048576 → OusBd 1048576 sub →
    Calls Tryz.prog 78 #[.agg #[.int .i64 h.k, .int .i64 h.n, .string h.t, .slice a1 h.keys.length c1, .slice a2 sub.len c2], .int .i64 d] w fun e w' => OkS w d h sub e w'
theorem belowN {B : Nat} {w W : World} (h : Below B w W) (q : Nat) : Below B w (W.drewN q) := h.trans ⟨rfl, rfl, rfl, Nat.le_refl _, fun _ _ => rfl⟩
set_option maxHeartbeats 8000000 in
set_option maxRecDepth 20000 in
theorem spec_l08 : ∀ d : Nat, d ≤ 20 → SpecOK d := by
  intro d
  induction d with
  | zero =>
    intro _ h sub a1 a2 c1 c2 w r1 hc r2 hb hl hs
    have B0 : Hid (Below w.heap.size w (w.alloc (.cells #[.int .i64 h.k, .int .i64 h.n, .string h.t, .slice a1 h.keys.length c1, .slice a2 sub.len c2] 44))) := (Below.refl _ _).alloc (Nat.le_refl _) _
    clear r1 r2 hb hs
    go_enter Tryz.func78, Tryz.ntmps78
    go_wp2_with fail
    go_ret2
    exact OkS.mk (outB_zero _ _) (by omega) (by omega) (fun e => by cases e) B0.out
  | succ d ih =>
    intro hd h sub a1 a2 c1 c2 w r1 hc r2 hb hl hs
    obtain ⟨D, hD⟩ : ∃ D : Int, D = ((d + 1 : Nat) : Int) := ⟨_, rfl⟩
    rw [← hD]
    have hdD : (d : Int) + 1 = D ∧ 1 ≤ D ∧ D ≤ 20 := by omega
    obtain ⟨hdD1, hdD2, hdD3⟩ := hdD
    have HD1 : Hid (D - 1 = (d : Int)) := by unfold Hid; omega
    obtain ⟨x1, x2, x3⟩ := hb
    obtain ⟨V, hV⟩ : ∃ V, V = w.alloc (.cells #[.int .i64 h.k, .int .i64 h.n, .string h.t, .slice a1 h.keys.length c1, .slice a2 sub.len c2] 44) := ⟨_, rfl⟩
    have B0 : Below w.heap.size w V := by rw [hV]; exact (Below.refl _ _).alloc (Nat.le_refl _) _
    have c0 : V.heap[w.heap.size]? = some (.cells #[.int .i64 h.k, .int .i64 h.n, .string h.t, .slice a1 h.keys.length c1, .slice a2 sub.len c2] 44 (0, 0)) := by rw [hV]; exact heap_alloc_new _ _
    have zV := (Array.getElem?_eq_some_iff.1 c0).1
    have KV : Hid (∀ W, Below V.heap.size V W → W.heap[w.heap.size]? = some (.cells #[.int .i64 h.k, .int .i64 h.n, .string h.t, .slice a1 h.keys.length c1, .slice a2 sub.len c2] 44 (0, 0)) ∧ KeRow 0 W.heap.size W a1 h.keys ∧ OuFrom 0 V.heap.size W a2 0 sub ∧ Below w.heap.size w W) := fun W hW =>
      have hw := B0.trans (hW.mono B0.size)
      ⟨(hW.block _ zV).trans c0, KeRow.up r1 hw, OuFrom.keep (OuRow.up r2 B0).from_ (agree hW (Nat.le_refl _)), hw⟩
    have x0 := fun o => row_cell c0 o
    have IH : Hid (SpecOK d) := ih (by omega)
    have HS : Hid _ := hs
    have H3 : Hid _ := x3
    have hd1 : (D == 0) = false := beq_eq_false_iff_ne.2 (by omega)
    clear hD hdD1
    have hT1 : h.t.size ≤ maxLen := by unfold maxLen; omega
    clear r1 r2 ih hs x3 c0 B0
    go_enter Tryz.func78, Tryz.ntmps78
    go_upto_region 3 with fail
    rw [← hV]
    clear hV
    go_cut [6] from 13 to 22 (fun u wx => u = .bool (plainB h sub) ∧ wx = V)
    case first =>
      by_cases p1 : h.keys.length = 0
      · by_cases p2 : sub.len = 0
        · have HP : Hid (plainB h sub = true) := by simp [Hid, plainB, p1, p2]
          have q1 : ((h.keys.length : Int) == 0) = true := by simp [p1]
          have q2 : ((sub.len : Int) == 0) = true := by simp [p2]
          clear p1 p2
          go_wp2_with fail
          go_meet
          exact ⟨by rw [HP.out], rfl⟩
        · have HP : Hid (plainB h sub = false) := by simp [Hid, plainB, p2]
          have q1 : ((h.keys.length : Int) == 0) = true := by simp [p1]
          have q2 : ((sub.len : Int) == 0) = false := by simp; omega
          clear p1 p2
          go_wp2_with fail
          go_meet
          exact ⟨by rw [HP.out], rfl⟩
      · have HP : Hid (plainB h sub = false) := by
          unfold Hid plainB; rw [decide_eq_false p1]; rfl
        have q1 : ((h.keys.length : Int) == 0) = false := beq_eq_false_iff_ne.2 (by omega)
        clear p1
        go_wp2_with fail
        go_meet
        exact ⟨by rw [HP.out], rfl⟩
    obtain ⟨rfl, hwc⟩ := hcut
    rw [hwc]
    clear hwc
    have BV : Hid (Below w.heap.size w V) := (KV.out _ (Below.refl _ _)).2.2.2
    by_cases k0 : h.k = 0
    · have HL : Hid (outB (d + 1) h sub = headB h sub) := outB_leaf (by omega) (.inl k0)
      have HH : Hid (headB h sub = (plainB h sub && (h.n == 0) && noT h)) := by unfold Hid headB; rw [if_pos k0]
      have HN1 : Hid (headB h sub = true → sub.size = 0) := fun e => by
        rw [HH.out, Bool.and_eq_true, Bool.and_eq_true] at e; rw [plain_nil e.1.1]; rfl
      have FIN : Hid (∀ (b : Bool) (W : World), headB h sub = b → Below w.heap.size w W → OkS w (d + 1) h sub (.returned (.tuple #[.int .i64 1, .bool b])) W) := fun b W hb hW =>
        OkS.mk (HL.out.trans hb) (by omega) (by omega) (fun e => by rw [HN1.out (hb.trans e)]; rfl) hW
      clear HL
      rw [k0] at x0
      cases hp : plainB h sub
      · go_wp2_with fail
        go_quiet (fail)
        go_wp2_with fail
        go_ret2
        exact FIN.out _ _ (by rw [HH.out, hp]; rfl) (belowN BV.out _)
      · cases hn : (h.n == 0)
        · go_wp2_with fail
          go_quiet (fail)
          go_wp2_with fail
          go_ret2
          exact FIN.out _ _ (by rw [HH.out, hp, hn]; rfl) (belowN BV.out _)
        · go_wp2_with fail
          go_quiet (fail)
          go_wp2_with fail
          go_ret2
          exact FIN.out _ _ (by rw [HH.out, hp, hn]; rfl) (belowN BV.out _)
    have k0' : (h.k == 0) = false := beq_eq_false_iff_ne.2 k0
    by_cases k1 : h.k = 1
    · have HL : Hid (outB (d + 1) h sub = headB h sub) := outB_leaf (by omega) (.inr (.inl k1))
      have HH : Hid (headB h sub = (plainB h sub && intO h.n && noT h)) := by unfold Hid headB; rw [if_neg k0, if_pos k1]
      have HN1 : Hid (headB h sub = true → sub.size = 0) := fun e => by
        rw [HH.out, Bool.and_eq_true, Bool.and_eq_true] at e; rw [plain_nil e.1.1]; rfl
      have FIN : Hid (∀ (b : Bool) (W : World), headB h sub = b → Below w.heap.size w W → OkS w (d + 1) h sub (.returned (.tuple #[.int .i64 1, .bool b])) W) := fun b W hb hW =>
        OkS.mk (HL.out.trans hb) (by omega) (by omega) (fun e => by rw [HN1.out (hb.trans e)]; rfl) hW
      clear HL k0'
      rw [k1] at x0
      cases hp : plainB h sub
      · go_wp2_with fail
        go_quiet (fail)
        go_wp2_with fail
        go_ret2
        exact FIN.out _ _ (by rw [HH.out, hp]; rfl) (belowN BV.out _)
      · cases hn : intO h.n
        · have HI1 : Hid _ := hn
          go_wp2_with fail
          go_quiet ((first | (go_at_call 104; exact Calls.quiet_of_same (spec_isIntO _ _ HI1.out))))
          go_wp2_with fail
          go_ret2
          exact FIN.out _ _ (by rw [HH.out, hp, hn]; rfl) (belowN BV.out _)
        · have HI1 : Hid _ := hn
          go_wp2_with fail
          go_quiet ((first | (go_at_call 104; exact Calls.quiet_of_same (spec_isIntO _ _ HI1.out))))
          go_wp2_with fail
          go_ret2
          exact FIN.out _ _ (by rw [HH.out, hp, hn]; rfl) (belowN BV.out _)
    have k1' : (h.k == 1) = false := beq_eq_false_iff_ne.2 k1
    by_cases k2 : h.k = 2
    · have HL : Hid (outB (d + 1) h sub = headB h sub) := outB_leaf (by omega) (.inr (.inr k2))
      have HH : Hid (headB h sub = (plainB h sub && (h.n == 0) && nameB h.t)) := by unfold Hid headB; rw [if_neg k0, if_neg k1, if_pos k2]
      have HN1 : Hid (headB h sub = true → sub.size = 0) := fun e => by
        rw [HH.out, Bool.and_eq_true, Bool.and_eq_true] at e; rw [plain_nil e.1.1]; rfl
      have FIN : Hid (∀ (b : Bool) (W : World), headB h sub = b → Below w.heap.size w W → OkS w (d + 1) h sub (.returned (.tuple #[.int .i64 1, .bool b])) W) := fun b W hb hW =>
        OkS.mk (HL.out.trans hb) (by omega) (by omega) (fun e => by rw [HN1.out (hb.trans e)]; rfl) hW
      clear HL k0' k1'
      rw [k2] at x0
      cases hp : plainB h sub
      · go_wp2_with fail
        go_ret2
        exact FIN.out _ _ (by rw [HH.out, hp]; rfl) BV.out
      · cases hn : (h.n == 0)
        · go_wp2_with fail
          go_ret2
          exact FIN.out _ _ (by rw [HH.out, hp, hn]; rfl) BV.out
        · cases ht : nameB h.t
          · have HT1 : Hid _ := ht
            go_wp2_with (first | (go_at_call 77; refine (spec_nameB _ _ hT1 HT1.out).mono ?_; rintro e w' ⟨rfl, hw⟩; rw [hw]) | fail)
            go_ret2
            exact FIN.out _ _ (by rw [HH.out, hp, hn, ht]; rfl) BV.out
          · have HT1 : Hid _ := ht
            go_wp2_with (first | (go_at_call 77; refine (spec_nameB _ _ hT1 HT1.out).mono ?_; rintro e w' ⟨rfl, hw⟩; rw [hw]) | fail)
            go_ret2
            exact FIN.out _ _ (by rw [HH.out, hp, hn, ht]; rfl) BV.out
    have k2' : (h.k == 2) = false := beq_eq_false_iff_ne.2 k2
    have HHG : Hid (headB h sub = (groupB h sub && (!(h.k == 4) || keysB h.keys))) := head_group ⟨k0, k1, k2⟩
    go_upto_region 11 with fail
    go_cut [106] from 64 to 106 (fun u wx => u = .bool (!groupB h sub) ∧ wx = V)
    case first =>
      by_cases k3 : h.k = 3
      · have HG : Hid (groupB h sub = ((h.n == 0) && noT h && decide (h.keys.length = 0))) := by simp [Hid, groupB, k3]
        rw [k3] at x0
        clear k0' k1' k2'
        cases hn : (h.n == 0)
        · have hn' : (h.n != 0) = true := by simp only [bne, hn]; rfl
          go_wp2_with fail
          go_meet
          exact ⟨by rw [HG.out, hn]; rfl, rfl⟩
        · have hn' : (h.n != 0) = false := by simp only [bne, hn]; rfl
          cases ht : h.t.toList.isEmpty
          · go_wp2_with fail
            go_meet
            exact ⟨by rw [HG.out, hn, noT, ht]; rfl, rfl⟩
          · by_cases hk : h.keys.length = 0
            · have hk' : decide (0 < h.keys.length) = false := decide_eq_false (by omega)
              have HG2 : Hid (groupB h sub = true) := by rw [Hid, HG.out, hn, noT, ht, decide_eq_true hk]; rfl
              clear hk
              go_wp2_with fail
              go_meet
              exact ⟨by rw [HG2.out]; rfl, rfl⟩
            · have hk' : decide (0 < h.keys.length) = true := decide_eq_true (by omega)
              have HG2 : Hid (groupB h sub = false) := by rw [Hid, HG.out, hn, noT, ht, decide_eq_false hk]; rfl
              clear hk
              go_wp2_with fail
              go_meet
              exact ⟨by rw [HG2.out]; rfl, rfl⟩
      have k3' : (h.k == 3) = false := beq_eq_false_iff_ne.2 k3
      have k3'' : (h.k != 3) = true := by simp only [bne, k3']; rfl
      by_cases k4 : h.k = 4
      · have HG : Hid (groupB h sub = ((h.n == 0) && noT h && decide (h.keys.length = sub.len))) := by simp [Hid, groupB, k4]
        rw [k4] at x0
        clear k0' k1' k2' k3' k3''
        cases hn : (h.n == 0)
        · have hn' : (h.n != 0) = true := by simp only [bne, hn]; rfl
          go_wp2_with fail
          go_meet
          exact ⟨by rw [HG.out, hn]; rfl, rfl⟩
        · have hn' : (h.n != 0) = false := by simp only [bne, hn]; rfl
          cases ht : h.t.toList.isEmpty
          · go_wp2_with fail
            go_meet
            exact ⟨by rw [HG.out, hn, noT, ht]; rfl, rfl⟩
          · by_cases hk : h.keys.length = sub.len
            · have hk' : ((h.keys.length : Int) != sub.len) = false := by simp [hk]
              have HG2 : Hid (groupB h sub = true) := by rw [Hid, HG.out, hn, noT, ht, decide_eq_true hk]; rfl
              clear hk
              go_wp2_with fail
              go_meet
              exact ⟨by rw [HG2.out]; rfl, rfl⟩
            · have hk' : ((h.keys.length : Int) != sub.len) = true := by simp; omega
              have HG2 : Hid (groupB h sub = false) := by rw [Hid, HG.out, hn, noT, ht, decide_eq_false hk]; rfl
              clear hk
              go_wp2_with fail
              go_meet
              exact ⟨by rw [HG2.out]; rfl, rfl⟩
      · have k4' : (h.k == 4) = false := beq_eq_false_iff_ne.2 k4
        have k4'' : (h.k != 4) = true := by simp only [bne, k4']; rfl
        have HG2 : Hid (groupB h sub = false) := by simp [Hid, groupB, k3', k4']
        go_wp2_with fail
        go_meet
        exact ⟨by rw [HG2.out]; rfl, rfl⟩
    obtain ⟨rfl, hwc⟩ := hcut
    rw [hwc]
    clear hwc
    cases hg : groupB h sub
    · have HF : Hid (outB (d + 1) h sub = false) := outB_head (by rw [HHG.out, hg]; rfl)
      go_wp2_with fail
      go_ret2
      exact OkS.mk HF.out (by omega) (by omega) (fun e => by cases e) BV.out
    have HG : Hid (groupB h sub = true) := hg
    rw [Bool.not_true]
    have HK4 : Hid (h.k = 4 → h.keys.length = sub.len) := fun e => by
      have := hg; simp [groupB, e] at this; exact this.2
    have HF0 : Hid (OuFrom 0 V.heap.size V a2 0 sub) := (KV.out _ (Below.refl _ _)).2.2.1
    clear hg k0' k1' k2' x0
    go_upto_region 15 with fail
    go_loopw [7, 8] (fun x y w' => ∃ (i : Nat) (q : Int) (rest : Ous), x = .int .i64 q ∧ y = .int .i64 i ∧ i + rest.len = sub.len ∧ 1 ≤ q ∧ q ≤ 4000 ∧ Hid (Below V.heap.size V w') ∧ Hid (OuFrom 0 V.heap.size V a2 i rest) ∧ Hid (OusBd 1048576 rest) ∧ Hid ((sub.size : Int) + 1 = q + rest.size) ∧ Hid (okO d sub = okO d rest) ∧ Hid (h.k = 4 → ∀ j, j < i → keyB h.keys j = true)) (fun _ y _ => sub.len - (intOf y).toNat)
    case atStart => exact ⟨0, 1, sub, rfl, rfl, by omega, by omega, by omega, Below.refl _ _, HF0, HS, by unfold Hid; omega, rfl, fun _ j hj => by omega⟩
    case round =>
      obtain ⟨wo, rfl⟩ : ∃ x, x = wr := ⟨_, rfl⟩
      obtain ⟨i, q, rest, rfl, rfl, hi, hq1, hq2, HB, HF, HD, HSZ, HO, HKE⟩ := hrel
      have T0 := KV.out _ HB.out
      have x0 := fun o => row_cell T0.1 o
      have HBW : Hid (Below w.heap.size w wo) := T0.2.2.2
      have HKR : Hid (KeRow 0 wo.heap.size wo a1 h.keys) := T0.2.1
      clear T0
      cases rest with
      | nil =>
        simp only [Ous.len, Nat.add_zero] at hi
        have HFIN : Hid (outB (d + 1) h sub = true) := by
          refine outB_yes (by omega) ?_ (by rw [Nat.add_sub_cancel, HO.out]; rfl) (by have := HSZ.out; simp only [Ous.size] at this; omega)
          rw [HHG.out, HG.out]
          by_cases k4 : h.k = 4
          · have hk4 := HK4.out k4
            rw [keysB_true (fun j hj => HKE.out k4 j (by omega))]; simp
          · simp [beq_eq_false_iff_ne.2 k4]
        have HQ : Hid (q = 1 + (sub.size : Int)) := by have := HSZ.out; simp only [Ous.size] at this; unfold Hid; omega
        subst hi
        go_wp2_with fail
        go_ret2
        exact OkS.mk HFIN.out (by omega) (by omega) (fun _ => HQ.out) HBW.out
      | cons h' sub' rest =>
        have hlt : (i : Int) < sub.len := by simp only [Ous.len] at hi; omega
        have hiN : i < sub.len := by omega
        obtain ⟨b, o, a1', c1', a2', c2', ha, _, hbl, d0, d1, d2, d3, d4, hc', r1', r2', _⟩ := OuFrom.step (OuFrom.keep HF.out (agree HB.out (Nat.le_refl _)))
        have HF2 : Hid (OuFrom 0 V.heap.size V a2 (i + 1) rest) := by
          obtain ⟨_, _, _, _, _, _, _, _, _, _, _, _, _, _, _, _, _, rf9⟩ := OuFrom.step HF.out
          exact rf9
        obtain ⟨g1, g2, g3, g4⟩ := HD.out
        have E1 : Hid (OhBd 1048576 h') := g1
        have E3 : Hid (OusBd 1048576 sub') := g3
        have E4 : Hid (OusBd 1048576 rest) := g4
        have HOR : Hid (okO d (.cons h' sub' rest) = (oneO d h' sub' && okO d rest)) := okO_cons _ _ _ _
        have hzb := HB.out.size
        have R1 : Hid (KeRow 0 wo.heap.size wo a1' h'.keys) := KeRow.wide r1' (Nat.le_refl _) hzb
        have R2 : Hid (OuRow 0 wo.heap.size wo a2' sub') := OuRow.wide r2' (Nat.le_refl _) hzb
        subst ha
        clear g1 g3 g4 r1' r2'
        go_upto_region 17 with fail
        go_cut [137] from 114 to 137 (fun u wx => (∃ bad : Bool, u = .bool bad ∧ Hid (bad = ((h.k == 4) && !keyB h.keys i))) ∧ ∃ nq, wx = wo.drewN nq)
        case first =>
          by_cases k4 : h.k = 4
          · have hik : i < h.keys.length := by have := HK4.out k4; omega
            have hik' : (i : Int) < h.keys.length := by omega
            have hikc : (i : Int) ≤ c1 := by omega
            obtain ⟨b9, o9, ha9, _, hbl9, e9⟩ := KeRow.cells HKR.out i hik
            have RT : Hid (KeRow 0 wo.heap.size wo a1 (h.keys.take i)) := KeRow.take HKR.out i
            have HKL : Hid ((h.keys.take i).length = i) := by simp [Hid]; omega
            have hs9 : h.keys[i].size ≤ maxLen := by have := H3.out _ (List.getElem_mem hik); unfold maxLen; omega
            have HKB : Hid (keyB h.keys i = (nameB h.keys[i] && !hasK (h.keys.take i) h.keys[i])) := keyB_eq hik
            subst ha9
            rw [k4] at x0
            have HK44 : Hid ((h.k == 4) = true) := by simp [Hid, k4]
            cases hA : nameB h.keys[i]
            · have HA : Hid _ := hA
              clear hA
              go_quiet ((first | (go_at_call 77; exact Calls.quiet_of_same (spec_nameB _ _ hs9 HA.out))))
              go_wp2_with fail
              go_meet
              exact ⟨⟨_, rfl, by rw [Hid, HK44.out, HKB.out, HA.out]; rfl⟩, _, rfl⟩
            · have HA : Hid _ := hA
              clear hA
              cases hI : hasK (h.keys.take i) h.keys[i]
              · have hq := fun (W : World) (hr : KeRow 0 W.heap.size W (some ⟨b9, o9, none⟩) (h.keys.take i)) => keys_in (some ⟨b9, o9, none⟩) c1 (h.keys.take i) h.keys[i] W hr (by rw [HKL.out]; omega) hI
                rw [HKL.out] at hq
                have HQ : Hid _ := hq
                have HI : Hid _ := hI
                clear hq hI
                go_quiet ((first | (go_at_call 77; exact Calls.quiet_of_same (spec_nameB _ _ hs9 HA.out)) | (go_at_call 105; exact Calls.quiet_of_same (HQ.out _ RT.out))))
                go_wp2_with fail
                go_meet
                exact ⟨⟨_, rfl, by rw [Hid, HK44.out, HKB.out, HA.out, HI.out]; rfl⟩, _, rfl⟩
              · have hq := fun (W : World) (hr : KeRow 0 W.heap.size W (some ⟨b9, o9, none⟩) (h.keys.take i)) => keys_in (some ⟨b9, o9, none⟩) c1 (h.keys.take i) h.keys[i] W hr (by rw [HKL.out]; omega) hI
                rw [HKL.out] at hq
                have HQ : Hid _ := hq
                have HI : Hid _ := hI
                clear hq hI
                go_quiet ((first | (go_at_call 77; exact Calls.quiet_of_same (spec_nameB _ _ hs9 HA.out)) | (go_at_call 105; exact Calls.quiet_of_same (HQ.out _ RT.out))))
                go_wp2_with fail
                go_meet
                exact ⟨⟨_, rfl, by rw [Hid, HK44.out, HKB.out, HA.out, HI.out]; rfl⟩, _, rfl⟩
          · have k4' : (h.k == 4) = false := beq_eq_false_iff_ne.2 k4
            have HK4' : Hid _ := k4'
            go_quiet (fail)
            go_wp2_with fail
            go_meet
            exact ⟨⟨_, rfl, by rw [Hid, HK4'.out]; rfl⟩, _, rfl⟩
        obtain ⟨⟨bad, rfl, HBAD⟩, nq, hwc⟩ := hcut
        rw [hwc]
        clear hwc
        cases bad
        case true =>
          have HFL : Hid (outB (d + 1) h sub = false) := by
            have h1 := HBAD.out.symm
            rw [Bool.and_eq_true, beq_iff_eq, Bool.not_eq_true'] at h1
            refine outB_head ?_
            rw [HHG.out, keysB_false (i := i) (by have := HK4.out h1.1; omega) h1.2, h1.1]; simp
          go_wp2_with fail
          go_ret2
          exact OkS.mk HFL.out (by omega) (by omega) (fun e => by cases e) (belowN HBW.out _)
        case false =>
          have HKE2 : Hid (h.k = 4 → ∀ j, j < i + 1 → keyB h.keys j = true) := fun k4 j hj => by
            by_cases e : j = i
            · subst e
              have h1 := HBAD.out
              rw [k4] at h1
              simpa using h1.symm
            · exact HKE.out k4 j (by omega)
          have R2' : Hid (OuRow 0 (wo.drewN nq).heap.size (wo.drewN nq) a2' sub') := OuRow.keep R2.out (fun g _ _ => rfl)
          have R1' : Hid (KeRow 0 (wo.drewN nq).heap.size (wo.drewN nq) a1' h'.keys) := KeRow.keep R1.out (fun g _ _ => rfl)
          go_wp2_with fail
          rw [HD1.out]
          refine (IH.out h' sub' a1' a2' c1' c2' _ R1'.out hc' R2'.out E1.out g2 E3.out).mono ?_
          rintro e w1 ⟨⟨k', rfl, hk0, hk1, hkn⟩, hb1⟩
          have HKN : Hid _ := hkn
          have HB1 : Hid (Below V.heap.size V w1) := (belowN HB.out nq).trans (hb1.mono hzb)
          have HBW1 : Hid (Below w.heap.size w w1) := (KV.out _ HB1.out).2.2.2
          clear hb1 hkn d0 d1 d2 d3 d4 x0
          cases hok : outB d h' sub'
          · have HFL : Hid (outB (d + 1) h sub = false) := by
              cases ho : oneO d h' sub'
              · refine outB_sub ?_
                rw [Nat.add_sub_cancel, HO.out, HOR.out, ho]; rfl
              · refine outB_big ?_
                have h1 : ¬ 1 + sub'.size ≤ 4000 := fun h2 => by simp [outB, ho, h2] at hok
                have := HSZ.out
                simp only [Ous.size] at this
                omega
            go_wp2_with fail
            go_ret2
            exact OkS.mk HFL.out (by omega) (by omega) (fun e => by cases e) HBW1.out
          · have hk' := HKN.out hok
            have hone : oneO d h' sub' = true := by
              have := outB_all hok
              simp [oneO, this.1, this.2.1, this.2.2.1]
            have HO2 : Hid (okO d sub = okO d rest) := by rw [Hid, HO.out, HOR.out, hone]; rfl
            have HSZ2 : Hid ((sub.size : Int) + 1 = q + k' + rest.size) := by
              have := HSZ.out
              simp only [Ous.size] at this
              unfold Hid
              omega
            by_cases hbig : 4000 < q + k'
            · have HFL : Hid (outB (d + 1) h sub = false) := outB_big (by have := HSZ2.out; omega)
              clear hk'
              go_wp2_with fail
              go_ret2
              exact OkS.mk HFL.out (by omega) (by omega) (fun e => by cases e) HBW1.out
            · clear hk'
              go_wp2_with fail
              exact ⟨⟨i + 1, q + k', rest, by first | rfl | go_num, by first | rfl | go_num, by simp only [Ous.len] at hi; omega, by omega, by omega, HB1, HF2, E4, HSZ2, HO2, HKE2⟩, by simp [intOf]; omega⟩
set_option maxHeartbeats 1000000 in
theorem spec_outOK (h : Oh) (sub : Ous) (a1 a2 : Option Addr) (c1 c2 : Nat) (w : World) (r1 : KeRow 0 w.heap.size w a1 h.keys) (hc : h.keys.length ≤ c1) (r2 : OuRow 0 w.heap.size w a2 sub) (hb : OhBd 1048576 h) (hl : sub.len ≤ 1048576) (hs : OusBd 1048576 sub) :
    Calls Tryz.prog 50 #[.agg #[.int .i64 h.k, .int .i64 h.n, .string h.t, .slice a1 h.keys.length c1, .slice a2 sub.len c2]] w fun e w' => e = .returned (.bool (outB 20 h sub)) ∧ Below w.heap.size w w' := by
  obtain ⟨V, hV⟩ : ∃ V, V = w.alloc (.cells #[.int .i64 h.k, .int .i64 h.n, .string h.t, .slice a1 h.keys.length c1, .slice a2 sub.len c2] 44) := ⟨_, rfl⟩
  have B0 : Below w.heap.size w V := by rw [hV]; exact (Below.refl _ _).alloc (Nat.le_refl _) _
  have c0 : V.heap[w.heap.size]? = some (.cells #[.int .i64 h.k, .int .i64 h.n, .string h.t, .slice a1 h.keys.length c1, .slice a2 sub.len c2] 44 (0, 0)) := by rw [hV]; exact heap_alloc_new _ _
  have x0 := fun o => row_cell c0 o
  have R1 : Hid _ := KeRow.up r1 B0
  have R2 : Hid _ := OuRow.up r2 B0
  have HB : Hid _ := hb
  have HS : Hid _ := hs
  have HB0 : Hid _ := B0
  clear r1 r2 hb hs c0 B0
  go_enter Tryz.func50, Tryz.ntmps50
  go_upto_region 1 with fail
  rw [← hV]
  clear hV
  go_wp2_with fail
  refine (spec_l08 20 (by omega) h sub a1 a2 c1 c2 _ R1.out hc R2.out HB.out hl HS.out).mono ?_
  rintro e w1 ⟨⟨n, rfl, _, _, _⟩, hb1⟩
  have Q : Hid (Below w.heap.size w w1) := HB0.out.trans (hb1.mono HB0.out.size)
  clear hb1
  go_wp2_with fail
  go_ret
  exact ⟨rfl, Q.out⟩
end Go.Proofs.YtnkaoeijcdchiaaGreatDoor.G
