/- CheckTypes: the specification's look at a field's arguments. -/
import Derived.Test.YtkjndghkimnjeaaGreatTySpot
import Derived.Deep.RegionWith
import Derived.Deep.CutRange
namespace Go.Proofs.YtkjndghkimnjeaaGreat
open Go.ChangeShapes Go.WideShapes Go.ChangeAt Go.RowKit
set_option linter.unusedVariables false

def argC (f : G.Fd) (l : List Ar) : Int := if argsN f [] l = true then (if needsB f l = true then 0 else 10) else 10
theorem val_kind {v : Va} (h : valB v = true) : v.k = 1 ∨ v.k = 2 ∨ v.k = 3 ∨ v.k = 4 := by
  unfold valB at h
  split at h
  · exact .inl ‹_›
  · split at h
    · exact .inr (.inl ‹_›)
    · split at h
      · exact .inr (.inr (.inl ‹_›))
      · split at h
        · exact .inr (.inr (.inr ‹_›))
        · cases h
theorem fit_of {v : Va} (h : valB v = true) (need : Bool) : fitB v need = !((v.k == 2) || ((v.k == 3) && need)) := by
  unfold fitB
  rcases val_kind h with h | h | h | h <;> rw [h] <;> cases need <;> rfl
theorem arg_none {f : G.Fd} {x : Ar} (h : G.seen (f.args.map G.Ag.nm) x.nm = false) : argB f x = false := by
  unfold argB
  rw [List.any_eq_false]
  intro d hd hc
  rw [Bool.and_eq_true] at hc
  unfold G.seen at h
  rw [List.any_eq_false] at h
  exact h d.nm (List.mem_map.2 ⟨d, hd, rfl⟩) hc.1
theorem arg_at {f : G.Fd} {x : Ar} (hO : G.OkN (f.args.map G.Ag.nm)) (hv : valB x.v = true) {j : Nat} (hj : j < f.args.length) (he : (f.args[j].nm.toList == x.nm.toList) = true) : argB f x = !((x.v.k == 2) || ((x.v.k == 3) && f.args[j].need)) := by
  rw [← fit_of hv]
  unfold argB
  cases hf : fitB x.v f.args[j].need
  · rw [List.any_eq_false]
    intro d hd hc
    rw [Bool.and_eq_true] at hc
    obtain ⟨i, hi, rfl⟩ := List.getElem_of_mem hd
    have key : ∀ i j (hi : i < f.args.length) (hj : j < f.args.length), (f.args[i].nm.toList == x.nm.toList) = true → (f.args[j].nm.toList == x.nm.toList) = true → ¬ i < j := by
      intro i j hi hj h1 h2 hlt
      have hs := (hO j (by simpa using hj)).2
      rw [G.seen_of (k := i) (by simpa using hi) hlt (by rw [beq_iff_eq] at h1 h2; simp [h1, h2])] at hs
      cases hs
    have : i = j := by
      have h1 := key i j hi hj hc.1 he
      have h2 := key j i hj hi he hc.1
      omega
    subst this
    rw [hf] at hc
    exact Bool.noConfusion hc.2
  · rw [List.any_eq_true]
    exact ⟨f.args[j], List.getElem_mem hj, by rw [he, hf]; rfl⟩
theorem argC_no {f : G.Fd} {l : List Ar} (h : argsN f [] l = false) : 10 = argC f l := by unfold argC; rw [h]; rfl

set_option maxHeartbeats 8000000 in
set_option maxRecDepth 40000 in
theorem spec_argsC (f : G.Fd) (af : Option Addr) (cf : Nat) (a : Option Addr) (c : Nat) (l : List Ar) (w : World) (rf : G.AgRow 0 w.heap.size w af f.args) (hr : ArRow 0 w.heap.size w a l) (hfl : f.args.length ≤ 1048576) (hl : l.length ≤ 1048576) (hO : G.OkN (f.args.map G.Ag.nm)) (hv : ∀ x ∈ l, valB x.v = true) :
    Calls Tryz.prog 140 #[fdW f af cf, .slice a l.length c] w fun e w' => e = .returned (.int .i64 (argC f l)) ∧ Below w.heap.size w w' := by
  have KF : Hid (∀ W0, Below w.heap.size w W0 → G.AgRow 0 W0.heap.size W0 af f.args) := fun W0 hB => G.AgRow.up rf hB
  have KFw : Hid (∀ W0, Below w.heap.size w W0 → G.AgRow 0 w.heap.size W0 af f.args) := fun W0 hB => G.AgRow.keep rf (G.agree hB (Nat.le_refl _))
  have KA : Hid (∀ W0, Below w.heap.size w W0 → ArRow 0 w.heap.size W0 a l) := fun W0 hB => Row.keep hr (Below.agree hB (Nat.le_refl _))
  have HO : Hid (G.OkN (f.args.map G.Ag.nm)) := hO
  have HV : Hid (∀ x ∈ l, valB x.v = true) := hv
  clear rf hr hO hv
  unfold fdW
  go_enter Tryz.func140, Tryz.ntmps140
  go_wp2_with fail
  obtain ⟨W, hW⟩ : ∃ W, W = w.alloc (.cells #[.string f.nm, .slice af f.args.length cf, .string f.ty, .bool f.ls, .bool f.bg] 90) := ⟨_, rfl⟩
  rw [← hW]
  have zW : W.heap.size = w.heap.size + 1 := by rw [hW]; simp
  have B0 : Hid (Below w.heap.size w W) := by rw [hW]; exact (Below.refl _ _).alloc (Nat.le_refl _) _
  have A0 : Hid (W.heap[w.heap.size]? = some (.cells #[.string f.nm, .slice af f.args.length cf, .string f.ty, .bool f.ls, .bool f.bg] 90 (0, 0))) := by rw [Hid, hW]; exact heap_alloc_new _ _
  clear hW
  go_loopw [5] (fun i w' => ∃ (k : Nat), k ≤ l.length ∧ i = .int .i64 k ∧ Hid (Below W.heap.size W w') ∧ Hid (argsTo f l k)) (fun i _ => l.length - (intOf i).toNat)
  case atStart => exact ⟨0, by omega, rfl, Below.refl _ _, fun i h hi => by omega⟩
  case round =>
    obtain ⟨k, hk, rfl, HK, HA⟩ := hrel
    have zr := HK.out.size
    have QR : Hid (Below w.heap.size w wr) := B0.out.trans (HK.out.mono (by omega))
    have q0 := fun o => row_cell ((HK.out.block w.heap.size (by omega)).trans A0.out) o
    by_cases hlt : k < l.length
    case neg =>
      have HAN : Hid (argsN f [] l = true) := argsN_yes (fun i hi => HA.out i hi (by omega))
      clear HA
      go_wp2_with fail
      obtain ⟨wo, rfl⟩ : ∃ x, x = wr := ⟨_, rfl⟩
      clear q0
      go_loopw [9] (fun i w' => ∃ (m : Nat), m ≤ f.args.length ∧ i = .int .i64 m ∧ Hid (Below W.heap.size W w') ∧ Hid ((f.args.take m).all (needB l) = true)) (fun i _ => f.args.length - (intOf i).toNat)
      case atStart => exact ⟨0, by omega, rfl, HK, rfl⟩
      case round =>
        obtain ⟨m, hm, rfl, HM, HN⟩ := hrel
        have zm := HM.out.size
        have QM : Hid (Below w.heap.size w wr) := B0.out.trans (HM.out.mono (by omega))
        have qm := fun o => row_cell ((HM.out.block w.heap.size (by omega)).trans A0.out) o
        by_cases hmt : m < f.args.length
        case neg =>
          have HE : Hid (0 = argC f l) := by
            have := HN.out
            rw [List.take_of_length_le (by omega)] at this
            unfold Hid argC; rw [HAN.out, ← needs_all, this]; rfl
          clear HN
          go_wp2_with fail
          go_ret
          exact ⟨ret_i HE.out, QM.out⟩
        obtain ⟨b, o, ha, _, hbl, d0, d1⟩ := G.AgRow.cells (KFw.out _ QM.out) m hmt
        subst ha
        go_wp2_with fail
        obtain ⟨wp, rfl⟩ : ∃ x, x = wr := ⟨_, rfl⟩
        clear d0 d1 qm
        go_loopw [10, 11] (fun fd i w' => ∃ (q : Nat), q ≤ l.length ∧ i = .int .i64 q ∧ fd = .bool (!f.args[m].need || seenA (l.take q) f.args[m].nm) ∧ Hid (Below W.heap.size W w')) (fun _ i _ => l.length - (intOf i).toNat)
        case atStart => exact ⟨0, by omega, rfl, by simp [seenA], HM⟩
        case round =>
          obtain ⟨q, hq, rfl, rfl, HQ⟩ := hrel
          have zq := HQ.out.size
          have QQ : Hid (Below w.heap.size w wr) := B0.out.trans (HQ.out.mono (by omega))
          by_cases hqt : q < l.length
          case neg =>
            have HB : Hid ((!f.args[m].need || seenA (l.take q) f.args[m].nm) = needB l f.args[m]) := by rw [Hid, List.take_of_length_le (by omega)]; rfl
            rw [HB.out]
            cases hb : needB l f.args[m]
            · have HE : Hid (10 = argC f l) := by
                unfold Hid argC; rw [HAN.out, ← needs_all, all_no hmt hb]; rfl
              go_wp2_with fail
              go_ret
              exact ⟨ret_i HE.out, QQ.out⟩
            · have HE : Hid ((f.args.take (m + 1)).all (needB l) = true) := all_next hmt HN.out hb
              go_wp2_with fail
              exact ⟨⟨m + 1, by omega, by go_num, HQ, HE⟩, by simp [intOf]; omega⟩
          obtain ⟨b1, o1, ha, _, hbl1, e0, e1, e2, e3⟩ := (KA.out _ QQ.out).cells_ar q hqt
          subst ha
          obtain ⟨b2, o2, ha, _, hbl2, d0, d1⟩ := G.AgRow.cells (KFw.out _ QQ.out) m hmt
          simp only [Option.some.injEq, Addr.mk.injEq, and_true] at ha
          obtain ⟨rfl, rfl⟩ := ha
          have qq := row_cell ((HQ.out.block w.heap.size (by omega)).trans A0.out) 1
          clear e1 e2 e3 d1
          have HST : Hid ((!f.args[m].need || seenA (l.take (q + 1)) f.args[m].nm) = ((!f.args[m].need || seenA (l.take q) f.args[m].nm) || (l[q].nm.toList == f.args[m].nm.toList))) := by rw [Hid, seenA_take hqt, Bool.or_assoc]
          generalize (!f.args[m].need || seenA (l.take q) f.args[m].nm) = bb at *
          cases bb with
          | true =>
            go_wp2_with fail
            go_quiet (fail)
            go_wp2_with fail
            go_roundw
            case rel => exact ⟨q + 1, by omega, by go_num, by rw [HST.out]; rfl, HQ.out.trans (by exact ⟨rfl, rfl, rfl, Nat.le_refl _, fun _ _ => rfl⟩)⟩
            case measure => simp [intOf]; omega
          | false =>
            cases he : (l[q].nm.toList == f.args[m].nm.toList)
            all_goals
              go_wp2_with fail
              go_quiet (fail)
              go_wp2_with fail
              go_roundw
              case rel => exact ⟨q + 1, by omega, by go_num, by rw [HST.out, he]; rfl, HQ.out.trans (by exact ⟨rfl, rfl, rfl, Nat.le_refl _, fun _ _ => rfl⟩)⟩
              case measure => simp [intOf]; omega
    obtain ⟨b, o, ha, _, hbl, d0, d1, d2, d3⟩ := (KA.out _ QR.out).cells_ar k hlt
    subst ha
    have HVK : Hid (valB l[k].v = true) := HV.out _ (List.getElem_mem hlt)
    go_wp2_with fail
    go_cut [6] from 18 to 24 (fun u wx => ∃ r, u = .int .i64 r ∧ Hid (G.Fi (f.args.map G.Ag.nm) l[k].nm r) ∧ Hid (Below wr.heap.size wr wx))
    case first =>
      go_region_with (
        (go_at_call 154
         refine (G.spec_arg f af cf l[k].nm _ (KF.out _ QR.out.drew) hfl).mono ?_
         rintro e w1 ⟨r, rfl, hFi, hb1⟩
         have HFi : Hid (G.Fi (f.args.map G.Ag.nm) l[k].nm r) := hFi
         have p1 : Hid (Below wr.heap.size wr w1) := (Below.refl _ _).drew.trans (hb1.mono (Nat.le_refl _))
         clear hFi hb1))
      all_goals (try go_wp2_with fail)
      all_goals go_meet
      all_goals exact ⟨_, rfl, HFi, p1⟩
    case rest =>
      obtain ⟨r, rfl, HFi, HW⟩ := hcut
      have zc := HW.out.size
      have QC : Hid (Below w.heap.size w wc) := QR.out.trans (HW.out.mono (by have := QR.out.size; omega))
      have WC : Hid (Below W.heap.size W wc) := HK.out.trans (HW.out.mono (by omega))
      have hbw : b < wr.heap.size := by have := QR.out.size; omega
      have e1 := (HW.out.cell (p := ⟨b, o + k * 4 + 1, none⟩) hbw).trans d1
      have e2 := (HW.out.cell (p := ⟨b, o + k * 4 + 2, none⟩) hbw).trans d2
      have e3 := (HW.out.cell (p := ⟨b, o + k * 4 + 3, none⟩) hbw).trans d3
      have qA := fun ob o => (((Below.refl wc.heap.size wc).alloc (Nat.le_refl _) ob).cell (p := ⟨w.heap.size, o, none⟩) (show w.heap.size < wc.heap.size by omega)).trans (row_cell ((WC.out.block w.heap.size (by omega)).trans A0.out) o)
      have QA : Hid (∀ ob, Below w.heap.size w (wc.alloc ob)) := fun ob => QC.out.alloc (by have := QC.out.size; omega) _
      have WA : Hid (∀ ob, Below W.heap.size W (wc.alloc ob)) := fun ob => WC.out.alloc (by omega) _
      clear d0 d1 d2 d3 q0
      rcases HFi.out with ⟨rfl, hs⟩ | ⟨j, hj, rfl, he, hs⟩
      · have HN : Hid (10 = argC f l) := argC_no (argsN_no hlt (.inr (arg_none hs)))
        clear hs
        go_wp2_with fail
        go_ret
        exact ⟨ret_i HN.out, QA.out _⟩
      have hj' : j < f.args.length := by simpa using hj
      have HAB : Hid (argB f l[k] = !((l[k].v.k == 2) || ((l[k].v.k == 3) && f.args[j].need))) := arg_at HO.out HVK.out hj' (by simpa using he)
      obtain ⟨b5, o5, ha, _, hbl5, g0, g1⟩ := G.AgRow.cells (KFw.out _ QC.out) j hj'
      subst ha
      have gA := fun ob => (((Below.refl wc.heap.size wc).alloc (Nat.le_refl _) ob).cell (p := ⟨b5, o5 + j * 2 + 1, none⟩) (show b5 < wc.heap.size by have := QC.out.size; omega)).trans g1
      have hjn : ¬ ((j : Int) < 0) := by omega
      clear hs he hj g0 g1
      cases h2 : (l[k].v.k == 2)
      case true =>
        have HN : Hid (10 = argC f l) := argC_no (argsN_no hlt (.inr (by rw [HAB.out, h2]; rfl)))
        go_wp2_with fail
        go_ret
        exact ⟨ret_i HN.out, QA.out _⟩
      case false =>
        have hdec : ((l[k].v.k == 3) && f.args[j].need) = true ∨ ((l[k].v.k == 3) && f.args[j].need) = false := by cases ((l[k].v.k == 3) && f.args[j].need) <;> simp
        rcases hdec with h3 | h3
        · have HN : Hid (10 = argC f l) := argC_no (argsN_no hlt (.inr (by rw [HAB.out, h2, h3]; rfl)))
          rw [Bool.and_eq_true] at h3
          obtain ⟨h31, h32⟩ := h3
          rw [h32] at gA
          go_wp2_with fail
          go_ret
          exact ⟨ret_i HN.out, QA.out _⟩
        · have HOK : Hid (argB f l[k] = true) := by rw [Hid, HAB.out, h2, h3]; rfl
          cases h31 : (l[k].v.k == 3)
          all_goals
            rw [h31] at h3
            simp only [Bool.true_and, Bool.false_and] at h3
            try rw [h3] at gA
            go_wp2_with fail
            obtain ⟨V, hV⟩ : ∃ V, V = wc.alloc (.cells #[.int .i64 l[k].v.k, .int .i64 l[k].v.n, .string l[k].v.t] 62) := ⟨_, rfl⟩
            rw [← hV]
            have WV : Hid (Below W.heap.size W V) := by rw [hV]; exact WA.out _
            clear hV e1 e2 e3 qA gA h2 h3
            go_loopw [8] (fun i w' => ∃ (q : Nat), q ≤ k ∧ i = .int .i64 q ∧ Hid (Below W.heap.size W w') ∧ Hid (seenA (l.take q) l[k].nm = false)) (fun i _ => k - (intOf i).toNat)
            case atStart => exact ⟨0, by omega, rfl, WV, rfl⟩
            case round =>
              obtain ⟨q, hq, rfl, HQ, HS⟩ := hrel
              have zq := HQ.out.size
              have QQ : Hid (Below w.heap.size w wr) := B0.out.trans (HQ.out.mono (by omega))
              by_cases hqk : q < k
              case neg =>
                have HA2 : Hid (argsTo f l (k + 1)) := HA.out.next hlt (by have := HS.out; rwa [show q = k by omega] at this) HOK.out
                go_wp2_with fail
                exact ⟨⟨k + 1, by omega, by go_num, HQ, HA2⟩, by simp [intOf]; omega⟩
              have hql : q < l.length := by omega
              obtain ⟨b1, o1, ha1, _, hbl1, y0, y1, y2, y3⟩ := (KA.out _ QQ.out).cells_ar k hlt
              obtain ⟨b2, o2, ha2, _, hbl2, x0, x1, x2, x3⟩ := (KA.out _ QQ.out).cells_ar q hql
              simp only [Option.some.injEq, Addr.mk.injEq, and_true] at ha1 ha2
              obtain ⟨rfl, rfl⟩ := ha1
              obtain ⟨rfl, rfl⟩ := ha2
              clear y1 y2 y3 x1 x2 x3
              cases h5 : (l[q].nm.toList == l[k].nm.toList) with
              | false =>
                have HF : Hid (seenA (l.take (q + 1)) l[k].nm = false) := by rw [Hid, seenA_take hql, HS.out, h5]; rfl
                go_wp2_with fail
                go_quiet (fail)
                go_wp2_with fail
                go_roundw
                case rel => exact ⟨q + 1, by omega, by go_num, HQ.out.trans (by exact ⟨rfl, rfl, rfl, Nat.le_refl _, fun _ _ => rfl⟩), HF⟩
                case measure => simp [intOf]; omega
              | true =>
                have HN : Hid (10 = argC f l) := argC_no (argsN_no hlt (.inl (seenA_of hql hqk h5)))
                go_wp2_with fail
                go_quiet (fail)
                go_wp2_with fail
                go_ret
                exact ⟨ret_i HN.out, QQ.out.trans (by exact ⟨rfl, rfl, rfl, Nat.le_refl _, fun _ _ => rfl⟩)⟩
end Go.Proofs.YtkjndghkimnjeaaGreat
