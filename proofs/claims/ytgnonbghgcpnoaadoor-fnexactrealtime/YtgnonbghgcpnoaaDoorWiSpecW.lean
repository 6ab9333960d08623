/- The specification's witness. -/
import Derived.Test.YtgnonbghgcpnoaaDoorWiSpecJ
namespace Go.Proofs.YtgnonbghgcpnoaaDoor
open Go.ChangeShapes Go.WideShapes Go.ChangeAt Go.RowKit
set_option linter.unusedVariables false

theorem own_cell {w : World} {base : Nat} {g cap : Nat} {x : List Int} (h : w.ownsRow base 3 1 (.slice (some ⟨g, 0, none⟩) x.length cap) x.length (nuV x)) (j : Nat) (hj : j < x.length) : w.cell? ⟨g, j, none⟩ = some (.int .i64 x[j]) := by
  obtain ⟨a, c, e, h1⟩ := NuOwn.of h
  simp only [Value.slice.injEq, true_and] at e
  obtain ⟨rfl, rfl⟩ := e
  rcases h1 with h1 | ⟨g', cs, e, e1, e2, e3, e4, e5⟩
  · rw [h1] at hj; simp at hj
  · simp only [Option.some.injEq, Addr.mk.injEq, and_true] at e
    subst e
    rw [row_cell e3 j]
    exact e5 j _ (List.getElem?_eq_getElem hj)
theorem own_base {w : World} {base base' size n : Nat} {e : TypeId} {v : Value} {xs : List Value} (h : w.ownsRow base e size v n xs) (hb : base' ≤ base) : w.ownsRow base' e size v n xs := by
  refine ⟨h.1, ?_⟩
  rcases h.2 with h0 | ⟨g, cap, cur, e1, h1, h2⟩
  · exact .inl h0
  · exact .inr ⟨g, cap, cur, e1, by omega, h2⟩
theorem own_cap {w : World} {base : Nat} {g cap : Nat} {x : List Int} (h : w.ownsRow base 3 1 (.slice (some ⟨g, 0, none⟩) x.length cap) x.length (nuV x)) : x.length ≤ cap := by
  rcases h.2 with ⟨e, _⟩ | ⟨g', cap', cur, e, h1, h2, h3, h4, h5, h6⟩
  · cases e
  · simp only [Value.slice.injEq, true_and] at e
    omega
theorem WJL.start {base : Nat} {t e : List Int} {z : Int} {w : World} {n : Nat} (u : Nat → Value) : WJL base t e z w (Array.replicate n false) u w.drew := by
  have hf : ∀ k, (Array.replicate n false).getD k false = false := fun k => by
    rw [Array.getD_eq_getD_getElem?, Array.getElem?_replicate]
    split <;> rfl
  unfold WJL
  rw [hf, hf, hf, hf, hf]
  exact ⟨(Below.refl _ _).drew, nofun, nofun, nofun, nofun, nofun, nofun, nofun, nofun⟩
theorem G.wp_append_run9 {P : Program} {o : Oper} {a : Act} {K : Act → World → Prop} {Q : Exit → Act → World → Prop} {w : World} (s x : Operand) (t : TypeId)
    (ho : o.op = .call { callee := .builtin .append, args := #[s, x], argTypes := #[t, t] }) (sv xv rv : Value) (w' : World) (hs : a.eval s = sv) (hx : a.eval x = xv)
    (hr : (Builtin.append_ #[t, t] o.type #[sv, xv]).run P w = .ok rv w') (h : K (a.put o.dst rv) w') : o.wp P a w K Q := by
  unfold Oper.wp execOp
  simp only [ho, resolve, invoke, builtin, Sem.run_bind, Sem.run_pure, Result.andThen_ok, List.map_toArray, List.map_cons, List.map_nil, hs, hx, hr]
  exact h
set_option maxHeartbeats 8000000 in
set_option maxRecDepth 20000 in
theorem spec_wi (a : Option Addr) (c : Nat) (l : List Dn) (w : World) (hr : DnRow 0 w.heap.size w a l) (hl : l.length ≤ 60) :
    Calls Tryd.prog 30 #[.slice a l.length c] w fun e w' => ∃ a' c', e = .returned (.slice a' (witP l).length c') ∧ NuOwn w.heap.size w'.heap.size w' a' (witP l) ∧ Below w.heap.size w w' := by
  have HR : Hid (∀ W0, Below w.heap.size w W0 → DnRow 0 W0.heap.size W0 a l) := fun W0 hB => DnRow.up hr hB
  clear hr
  go_enter Tryd.func30, Tryd.ntmps30
  go_wp2_with fail
  refine (spec_comP a c l _ (HR.out _ (Below.refl _ _)) hl).mono ?_
  rintro e w1 ⟨a1, c1, rfl, o1, hb1⟩
  obtain ⟨cs, hcs⟩ : ∃ u, u = comP l l.length := ⟨_, rfl⟩
  have hcl : cs.length ≤ 60 := by rw [hcs]; have := comP_len l l.length; omega
  have CPW : Hid (cs.Pairwise (· < ·)) := by rw [Hid, hcs]; exact comP_pw
  have CAT : Hid (∀ k (h : k < cs.length), ∃ p : Nat, cs[k] = (p : Int) ∧ p < l.length) := fun k h => by
    subst hcs
    obtain ⟨p, e1, e2, _⟩ := comP_mem (List.getElem_mem h)
    exact ⟨p, e1, e2⟩
  rw [← hcs] at o1 ⊢
  have HCS : Hid (cs = comP l l.length) := hcs
  have O1 : Hid (∀ W, Below w1.heap.size w1 W → NuRow 0 W.heap.size W a1 cs ∧ Below w.heap.size w W) := fun W h =>
    ⟨Row.up (Row.wide (NuOwn.row o1) (Nat.zero_le _) (Nat.le_refl _)) h, hb1.trans (h.mono hb1.size)⟩
  have z1 := hb1.size
  clear hb1 o1 hcs
  go_wp2_with fail
  obtain ⟨V, hV⟩ : ∃ V, V = w1.alloc (.cells #[] 3) := ⟨_, rfl⟩
  have HV1 : Hid (Below w1.heap.size w1 V) := by rw [Hid, hV]; exact (Below.refl _ _).alloc (Nat.le_refl _) _
  have hOV : Hid (V.ownsRow w1.heap.size 3 1 (.slice (some ⟨w1.heap.size, 0, none⟩) 0 0) 0 (nuV [])) := by
    rw [Hid, hV]; exact ⟨rfl, .inr ⟨w1.heap.size, 0, #[], rfl, Nat.le_refl _, heap_alloc_new _ _, by simp [nuV]⟩⟩
  rw [← hV]
  clear hV
  go_loopw [4, 5, 6] (fun vo vi vk w' => ∃ (i : Nat) (os : List Int) (g cap : Nat), i ≤ cs.length ∧ vi = .int .i64 i ∧ vo = .slice (some ⟨g, 0, none⟩) os.length cap ∧ Hid (os.length = i) ∧ Hid (w'.ownsRow w1.heap.size 3 1 (.slice (some ⟨g, 0, none⟩) os.length cap) os.length (nuV os)) ∧ Hid (Below w1.heap.size w1 w') ∧ Hid (os.Pairwise (LtZ l)) ∧ Hid (∀ z, z ∈ os ↔ z ∈ cs.take i)) (fun _ vi _ _ => cs.length - (intOf vi).toNat)
  case atStart => exact ⟨0, [], w1.heap.size, 0, by omega, rfl, rfl, rfl, hOV, HV1, by simp [Hid], fun z => by simp⟩
  case round =>
    obtain ⟨i, os, g, cap, hi, rfl, rfl, HOL, HO, HB, HPW, HM⟩ := hrel
    obtain ⟨wo, rfl⟩ : ∃ x, x = wr := ⟨_, rfl⟩
    clear hOV HV1
    have hol := HOL.out
    by_cases hlt : i < cs.length
    · obtain ⟨p, hp, hpl⟩ := CAT.out i hlt
      obtain ⟨b1, o1, ha1, _, hb1, xc1⟩ := NuRow.cells (O1.out _ HB.out).1 i hlt
      subst ha1
      rw [hp] at xc1
      have HZN : Hid ((p : Int) ∉ os) := by
        rw [Hid, HM.out, ← hp]
        intro q
        have h1 := List.pairwise_iff_getElem.1 CPW.out
        obtain ⟨j, hj, ej⟩ := List.mem_iff_getElem.1 q
        rw [List.getElem_take] at ej
        have hj2 : j < i := by simp at hj; omega
        have := h1 j i (by omega) hlt hj2
        omega
      have OSAT : Hid (∀ k (h : k < os.length), ∃ q : Nat, os[k] = (q : Int) ∧ q < l.length ∧ p ≠ q) := fun k h => by
        have hm := (HM.out os[k]).1 (List.getElem_mem h)
        obtain ⟨j, hj, ej⟩ := List.mem_iff_getElem.1 (List.mem_of_mem_take hm)
        obtain ⟨q, e1, e2⟩ := CAT.out j hj
        refine ⟨q, by rw [← ej, e1], e2, fun e => HZN.out ?_⟩
        subst e
        rw [← e1, ej]
        exact List.getElem_mem h
      have HP : Hid (cs[i] = (p : Int)) := hp
      have hln : os.length ≤ 60 := by omega
      clear hp hb1 hol
      go_wp2_with fail
      go_loopw [6] (fun vk w' => ∃ (k n : Nat), vk = .int .i64 k ∧ k ≤ os.length ∧ w' = wo.drewN n ∧ Hid (∀ u ∈ os.drop k, LtZ l p u)) (fun vk _ => (intOf vk).toNat)
      case atStart => exact ⟨os.length, 0, by first | rfl | rw [HOL.out], Nat.le_refl _, rfl, by simp [Hid]⟩
      case round =>
        obtain ⟨k, n, rfl, hk, rfl, HD⟩ := hrel
        by_cases hk0 : 0 < k
        · obtain ⟨w2, hw2⟩ : ∃ x, x = wo.drewN n := ⟨_, rfl⟩
          have H2 : Hid (w2 = wo.drewN n) := hw2
          have H2B : Hid (Below w1.heap.size w1 w2) := by rw [Hid, hw2]; exact nu_drewN HB.out n
          have xd1 : w2.cell? ⟨b1, o1 + i, none⟩ = some (.int .i64 p) := by rw [hw2]; exact xc1
          obtain ⟨j, hj⟩ : ∃ j, k = j + 1 := ⟨k - 1, by omega⟩
          subst hj
          have hjl : j < os.length := by omega
          obtain ⟨q, hq, hql, hpq⟩ := OSAT.out j hjl
          have xq : w2.cell? ⟨g, j, none⟩ = some (.int .i64 q) := by
            have := own_cell HO.out j hjl
            rw [hq] at this
            rw [hw2]; exact this
          rw [← hw2]
          clear hw2
          obtain ⟨kv, hkv⟩ : ∃ kv : Int, kv = ((j + 1 : Nat) : Int) := ⟨_, rfl⟩
          have HKV : Hid (kv = ((j + 1 : Nat) : Int)) := hkv
          have hk0' : (0 : Int) < kv := by omega
          have hkm : kv - 1 = (j : Int) := by omega
          have hwj : IntKind.i64.wrap (j : Int) = (j : Int) := by rw [IntKind.wrap_i64]; omega
          have hjl' : (j : Int) < (os.length : Int) := by omega
          have HQ : Hid (os[j]? = some (q : Int)) := by rw [Hid, List.getElem?_eq_getElem hjl, hq]
          have il : (i : Int) < (cs.length : Int) := by omega
          cases hlb : ltZ l p q
          · have HLESS : Hid (∀ m, Calls Tryd.prog 41 #[.slice a l.length c, .int .i64 p, .int .i64 q] (w2.drewN m) fun e w' => e = .returned (.bool false) ∧ ∃ m', w' = (w2.drewN m).drewN m') := fun m => by
              have := spec_less a c l p q _ (HR.out _ (nu_drewN (O1.out _ H2B.out).2 m)) hpl hql
              rwa [hlb] at this
            have HT : Hid (∀ u ∈ os.take (j + 1), LtZ l u p) := fun u hu => by
              have hlast : LtZ l (q : Int) (p : Int) := LtZ.total (fun e => hpq (by omega)) fun h => by rw [ltZ_iff.2 h] at hlb; cases hlb
              obtain ⟨t, ht, et⟩ := List.mem_iff_getElem.1 hu
              rw [List.getElem_take] at et
              have ht' : t < j + 1 := by simp at ht; omega
              by_cases e : t = j
              · subst e; rw [← et, hq]; exact hlast
              · have := List.pairwise_iff_getElem.1 HPW.out t j (by omega) hjl (by omega)
                rw [hq, et] at this
                exact this.trans hlast
            rw [← hkv]
            clear hq hkv hjl hlb
            go_wp2_with fail
            go_quiet ((go_at_call 41; exact Calls.quiet_of (HLESS.out _)))
            obtain ⟨kn, hkn⟩ : ∃ kn, kn = j + 1 := ⟨_, rfl⟩
            have HKN : Hid (kv = (kn : Int)) := by rw [Hid, HKV.out, hkn]
            rw [← hkn] at HD HT hk
            have HW9 : Hid (∃ m, w2.drewN nq = wo.drewN m) := ⟨_, by rw [H2.out, World.drewN_drewN]⟩
            have xc1 := xd1
            clear hk0' hkm hwj hjl' HKV hkn xq HLESS HQ hpq hql hk0 xd1 H2B H2
            obtain rfl := HKN.out
            go_wp2_with fail
            obtain ⟨w9, hw9⟩ : ∃ x, x = w2.drewN nq := ⟨_, rfl⟩
            rw [← hw9] at HW9 ⊢
            clear hw9
            obtain ⟨m9, hm9⟩ := HW9.out
            have B9 : Hid (Below w1.heap.size w1 w9) := by rw [Hid, hm9]; exact nu_drewN HB.out _
            have R9 : Hid (w9.ownsRow w1.heap.size 3 1 (.slice (some ⟨g, 0, none⟩) os.length cap) os.length (nuV os)) := by rw [Hid, hm9]; exact own_up HO.out (nu_drewN (Below.refl _ _) _)
            have XC9 : Hid (∀ W, Below w9.heap.size w9 W → W.cell? ⟨b1, o1 + i, none⟩ = some (.int .i64 p)) := fun W h => by
              obtain ⟨b2, o2, e2, _, _, x2⟩ := NuRow.cells (O1.out W (B9.out.trans (h.mono B9.out.size))).1 i hlt
              simp only [Option.some.injEq, Addr.mk.injEq, and_true] at e2
              rw [e2.1, e2.2, x2, HP.out]
            have hcap : Hid (os.length ≤ cap) := own_cap R9.out
            clear hm9 HW9 xc1
            refine G.region_rel5 (n := 15) (k := 1) (by omega) (by kernel_rfl) (by kernel_rfl) (by kernel_rfl) (fun y => ⟨#[(.slice a l.length c), undef, (.slice none 0 0), (.slice (some ⟨b1, o1, none⟩) cs.length c1), (.slice (some ⟨g, 0, none⟩) os.length cap), (.int .i64 ((i : Nat) : Int)), (.int .i64 ((kn : Nat) : Int)), (.slice a l.length c), (.slice (some ⟨b1, o1, none⟩) cs.length c1), (.slice (some ⟨w1.heap.size, 0, none⟩) 0 0), (.int .i64 ((i : Nat) : Int)), (.slice (some ⟨b1, o1, none⟩) cs.length c1), (.int .i64 ((cs.length : Nat) : Int)), (.bool true), u14, u15, (.slice (some ⟨g, 0, none⟩) os.length cap), (.int .i64 ((os.length : Nat) : Int)), (.int .i64 ((kn : Nat) : Int)), (.bool true), (.bool true), (.slice a l.length c), (.slice (some ⟨b1, o1, none⟩) cs.length c1), (.int .i64 ((i : Nat) : Int)), (.pointer (some ⟨b1, o1 + i, none⟩)), (.int .i64 ((p : Nat) : Int)), (.slice (some ⟨g, 0, none⟩) os.length cap), (.int .i64 ((kn : Nat) : Int)), (.int .i64 ((j : Nat) : Int)), (.pointer (some ⟨g, j, none⟩)), (.int .i64 ((q : Nat) : Int)), (.bool false), (.bool false), u33, u34, (y 35), (y 36), (y 37), (y 38), (y 39), (y 40), (y 41), (y 42), (y 43), (y 44), (y 45), (y 46), (y 47), (y 48), (y 49), undef], []⟩) (fun nz => match nz with | 35 => u35 | 36 => u36 | 37 => u37 | 38 => u38 | 39 => u39 | 40 => u40 | 41 => u41 | 42 => u42 | 43 => u43 | 44 => u44 | 45 => u45 | 46 => u46 | 47 => u47 | 48 => u48 | 49 => u49 | _ => undef) (fun iz => [35, 36, 37, 38, 39, 40, 41, 42, 43, 44, 45, 46, 47, 48, 49].getD iz 0) (fun iz jz hi hj h => (by decide : ∀ i, i < 15 → ∀ j, j < 15 → [35, 36, 37, 38, 39, 40, 41, 42, 43, 44, 45, 46, 47, 48, 49].getD i 0 = [35, 36, 37, 38, 39, 40, 41, 42, 43, 44, 45, 46, 47, 48, 49].getD j 0 → i = j) iz hi jz hj h)
              (fun iz vq _ => match iz with | 1 => vq = .slice (some ⟨g, 0, none⟩) os.length cap | 2 => vq = .int .i64 (kn : Int) | 3 => vq = .slice (some ⟨g, 0, none⟩) kn cap | 5 => vq = .slice (some ⟨b1, o1, none⟩) cs.length c1 | 6 => vq = .int .i64 (i : Int) | 7 => vq = .pointer (some ⟨b1, o1 + i, none⟩) | 8 => vq = .int .i64 (p : Int) | 11 => vq = .slice (some ⟨g, 0, none⟩) os.length cap | 12 => vq = .int .i64 (kn : Int) | 13 => ∃ ad cc, vq = .slice (some ad) (os.drop kn).length cc ∧ (ad = ⟨g, kn, none⟩ ∨ os.drop kn = []) | _ => True) (fun L y W => WJL 0 (os.take kn) (os.drop kn) p w9 L y W) (WJL.start _) ?step ?last
            case step =>
              intro D y W iq hiq hLs hLi hj hdep
              have hcase : iq = 0 ∨ iq = 1 ∨ iq = 2 ∨ iq = 3 ∨ iq = 4 ∨ iq = 5 ∨ iq = 6 ∨ iq = 7 ∨ iq = 8 ∨ iq = 9 ∨ iq = 10 ∨ iq = 11 ∨ iq = 12 ∨ iq = 13 ∨ iq = 14 := by omega
              have hjb := hj.below
              have HJB : Hid (Below w9.heap.size w9 W) := hjb
              clear hiq hjb
              rcases hcase with rfl | rfl | rfl | rfl | rfl | rfl | rfl | rfl | rfl | rfl | rfl | rfl | rfl | rfl | rfl
              · refine wpOp_step rfl (fun K hK => ?_)
                clear hdep
                go_simp
                exact hK _ _ ⟨.slice (some ⟨W.heap.size, 0, none⟩) 0 0, by simp [G.upd], fun _ _ h => h, trivial, hj.at0 hLs hLi⟩
              · refine wpOp_step rfl (fun K hK => ?_)
                clear hdep
                go_simp
                exact hK _ _ ⟨.slice (some ⟨g, 0, none⟩) os.length cap, by simp [G.upd], fun _ _ h => h, rfl, hj.plain (by decide) (by decide) (by decide) (by decide) (by decide) (by decide) (by decide) (by decide) (by decide) (by decide)⟩
              · refine wpOp_step rfl (fun K hK => ?_)
                clear hdep
                go_simp
                exact hK _ _ ⟨.int .i64 (kn : Int), by simp [G.upd], fun _ _ h => h, rfl, hj.plain (by decide) (by decide) (by decide) (by decide) (by decide) (by decide) (by decide) (by decide) (by decide) (by decide)⟩
              · have d1 : y 36 = .slice (some ⟨g, 0, none⟩) os.length cap := (hdep _ rfl ⟨1, .data⟩ (by simp) rfl).2
                have d2 : y 37 = .int .i64 (kn : Int) := (hdep _ rfl ⟨2, .data⟩ (by simp) rfl).2
                have hc := hcap.out
                have hkc : kn ≤ cap := by omega
                have hkc' : (kn : Int) ≤ (cap : Int) := by omega
                clear hdep hc
                refine wpOp_step rfl (fun K hK => ?_)
                go_simp
                exact hK _ _ ⟨.slice (some ⟨g, 0, none⟩) kn cap, by simp [G.upd, d1, d2], fun _ _ h => h, rfl, hj.plain (by decide) (by decide) (by decide) (by decide) (by decide) (by decide) (by decide) (by decide) (by decide) (by decide)⟩
              · have d3 : y 38 = .slice (some ⟨g, 0, none⟩) kn cap := (hdep _ rfl ⟨3, .data⟩ (by simp) rfl).2
                have d0 : D.getD 0 false = true := (hdep _ rfl ⟨0, .data⟩ (by simp) rfl).1
                have hlk : (os.take kn).length = kn := by simp; omega
                obtain ⟨v', W', hrun, q1, q2, q3⟩ := app_list [] (os.take kn) (y 35) w9.heap.size ⟨g, 0, none⟩ cap W (hj.r0 d0 (gd_no hLi)) (fun jj zz hz => by
                  obtain ⟨hz1, hz2⟩ := List.getElem?_eq_some_iff.1 hz
                  have := own_cell (own_up (w' := W) R9.out (HJB.out.mono (by exact Nat.le_refl _))) jj (by omega)
                  rw [List.getElem_take] at hz2
                  rw [add_plain, Nat.zero_add, ← hz2]
                  exact this) (by simp; omega) HJB.out.size
                rw [hlk] at hrun
                have HJ8 : Hid _ := hj.at4 hLs hLi d0 (by simpa using q1) q2 q3
                clear hdep q1 q2 q3
                refine wpOp_step rfl (fun K hK => ?_)
                refine G.wp_append_run9 (.tmp 35) (.tmp 38) _ rfl _ _ _ _ rfl d3 hrun ?_
                exact hK _ _ ⟨_, rfl, fun _ _ h => h, trivial, HJ8.out⟩
              · refine wpOp_step rfl (fun K hK => ?_)
                clear hdep
                go_simp
                exact hK _ _ ⟨.slice (some ⟨b1, o1, none⟩) cs.length c1, by simp [G.upd], fun _ _ h => h, rfl, hj.plain (by decide) (by decide) (by decide) (by decide) (by decide) (by decide) (by decide) (by decide) (by decide) (by decide)⟩
              · refine wpOp_step rfl (fun K hK => ?_)
                clear hdep
                go_simp
                exact hK _ _ ⟨.int .i64 (i : Int), by simp [G.upd], fun _ _ h => h, rfl, hj.plain (by decide) (by decide) (by decide) (by decide) (by decide) (by decide) (by decide) (by decide) (by decide) (by decide)⟩
              · have d5 : y 40 = .slice (some ⟨b1, o1, none⟩) cs.length c1 := (hdep _ rfl ⟨5, .data⟩ (by simp) rfl).2
                have d6 : y 41 = .int .i64 (i : Int) := (hdep _ rfl ⟨6, .data⟩ (by simp) rfl).2
                clear hdep
                refine wpOp_step rfl (fun K hK => ?_)
                go_simp
                exact hK _ _ ⟨.pointer (some ⟨b1, o1 + i, none⟩), by simp [G.upd, d5, d6], fun _ _ h => h, rfl, hj.plain (by decide) (by decide) (by decide) (by decide) (by decide) (by decide) (by decide) (by decide) (by decide) (by decide)⟩
              · have d7 : y 42 = .pointer (some ⟨b1, o1 + i, none⟩) := (hdep _ rfl ⟨7, .data⟩ (by simp) rfl).2
                have xW := XC9.out W HJB.out
                clear hdep
                refine wpOp_step rfl (fun K hK => ?_)
                go_simp
                exact hK _ _ ⟨.int .i64 (p : Int), by simp [G.upd, d7], fun _ _ h => h, rfl, hj.plain (by decide) (by decide) (by decide) (by decide) (by decide) (by decide) (by decide) (by decide) (by decide) (by decide)⟩
              · have d8 : y 43 = .int .i64 (p : Int) := (hdep _ rfl ⟨8, .data⟩ (by simp) rfl).2
                clear hdep
                refine wpOp_step rfl (fun K hK => ?_)
                go_simp
                exact hK _ _ ⟨.slice (some ⟨W.heap.size, 0, none⟩) 1 1, by simp [G.upd, d8], fun _ _ h => h, trivial, hj.at9 hLs hLi⟩
              · have d4 : D.getD 4 false = true := (hdep _ rfl ⟨4, .data⟩ (by simp) rfl).1
                have d9 : D.getD 9 false = true := (hdep _ rfl ⟨9, .data⟩ (by simp) rfl).1
                obtain ⟨h9, e9, c9, _, _⟩ := hj.r9 d9 (gd_no hLi)
                obtain ⟨v', W', hrun, q1, q2, q3⟩ := app_list (os.take kn) [(p : Int)] (y 39) w9.heap.size ⟨h9, 0, none⟩ 1 W (hj.r4 d4 (gd_no hLi)) (fun jj zz hz => by
                  have : jj = 0 := by have := (List.getElem?_eq_some_iff.1 hz).1; simpa using this
                  subst this
                  simp only [List.getElem?_cons_zero, Option.some.injEq] at hz
                  subst hz
                  rw [add_plain]
                  exact row_cell c9 0) (by simp; omega) HJB.out.size
                have HJ8 : Hid _ := hj.at10 hLs hLi d4 d9 q1 q2
                clear hdep q1 q2 q3 c9
                refine wpOp_step rfl (fun K hK => ?_)
                refine G.wp_append_run9 (.tmp 39) (.tmp 44) _ rfl _ _ _ _ rfl e9 hrun ?_
                exact hK _ _ ⟨_, rfl, fun _ _ h => h, trivial, HJ8.out⟩
              · refine wpOp_step rfl (fun K hK => ?_)
                clear hdep
                go_simp
                exact hK _ _ ⟨.slice (some ⟨g, 0, none⟩) os.length cap, by simp [G.upd], fun _ _ h => h, rfl, hj.plain (by decide) (by decide) (by decide) (by decide) (by decide) (by decide) (by decide) (by decide) (by decide) (by decide)⟩
              · refine wpOp_step rfl (fun K hK => ?_)
                clear hdep
                go_simp
                exact hK _ _ ⟨.int .i64 (kn : Int), by simp [G.upd], fun _ _ h => h, rfl, hj.plain (by decide) (by decide) (by decide) (by decide) (by decide) (by decide) (by decide) (by decide) (by decide) (by decide)⟩
              · have d11 : y 46 = .slice (some ⟨g, 0, none⟩) os.length cap := (hdep _ rfl ⟨11, .data⟩ (by simp) rfl).2
                have d12 : y 47 = .int .i64 (kn : Int) := (hdep _ rfl ⟨12, .data⟩ (by simp) rfl).2
                have hc := hcap.out
                have hdl : (os.drop kn).length = os.length - kn := by simp
                by_cases hkc : kn = cap
                · have hke : os.length = kn := by omega
                  have hdn : os.drop kn = [] := by rw [List.drop_eq_nil_iff]; omega
                  have HKE : Hid (os.length = kn) := hke
                  have HDN : Hid (os.drop kn = []) := hdn
                  rw [HKE.out] at d11
                  rw [← hkc] at d11
                  clear hdep hc hdl hdn hke
                  refine wpOp_step rfl (fun K hK => ?_)
                  go_simp
                  exact hK _ _ ⟨.slice (some ⟨g, 0, none⟩) (os.drop kn).length 0, by rw [HDN.out]; simp [G.upd, d11, d12]; omega, fun _ _ h => h, ⟨_, _, rfl, .inr HDN.out⟩, hj.plain (by decide) (by decide) (by decide) (by decide) (by decide) (by decide) (by decide) (by decide) (by decide) (by decide)⟩
                · have hkc' : (kn : Int) < (cap : Int) := by omega
                  have hkl : (kn : Int) ≤ (os.length : Int) := by omega
                  have HDL : Hid _ := hdl
                  clear hdep hc hdl
                  refine wpOp_step rfl (fun K hK => ?_)
                  go_simp
                  exact hK _ _ ⟨.slice (some ⟨g, kn, none⟩) (os.drop kn).length (cap - kn), by rw [HDL.out]; simp [G.upd, d11, d12]; intro hx; omega, fun _ _ h => h, ⟨_, _, rfl, .inl rfl⟩, hj.plain (by decide) (by decide) (by decide) (by decide) (by decide) (by decide) (by decide) (by decide) (by decide) (by decide)⟩
              · have d10 : D.getD 10 false = true := (hdep _ rfl ⟨10, .data⟩ (by simp) rfl).1
                obtain ⟨ad, cc, d13, had⟩ : ∃ ad cc, y 48 = .slice (some ad) (os.drop kn).length cc ∧ (ad = ⟨g, kn, none⟩ ∨ os.drop kn = []) := (hdep _ rfl ⟨13, .data⟩ (by simp) rfl).2
                obtain ⟨v', W', hrun, q1, q2, q3⟩ := app_list (os.take kn ++ [(p : Int)]) (os.drop kn) (y 45) w9.heap.size ad cc W (hj.r10 d10 (gd_no hLi)) (fun jj zz hz => by
                  rcases had with rfl | had
                  · obtain ⟨hz1, hz2⟩ := List.getElem?_eq_some_iff.1 hz
                    have hz3 : kn + jj < os.length := by simp at hz1; omega
                    have := own_cell (own_up (w' := W) R9.out HJB.out) (kn + jj) hz3
                    rw [List.getElem_drop] at hz2
                    rw [add_plain, ← hz2]
                    exact this
                  · rw [had] at hz; simp at hz) (by simp; omega) HJB.out.size
                have HJ8 : Hid _ := hj.at14 hLs hLi d10 q1 q2
                clear hdep q1 q2 q3
                refine wpOp_step rfl (fun K hK => ?_)
                refine G.wp_append_run9 (.tmp 45) (.tmp 48) _ rfl _ _ _ _ rfl d13 hrun ?_
                exact hK _ _ ⟨_, rfl, fun _ _ h => h, trivial, HJ8.out⟩
            case last =>
              intro D y W hLs hD hj hp
              have h14 := hj.r14 (hD 14 (by omega))
              have HBL : Hid (Below w9.heap.size w9 W) := hj.below
              have hlen9 : ((os.take kn ++ [(p : Int)]) ++ os.drop kn).length = os.length + 1 := by simp; omega
              obtain ⟨g', cap', e49, _, _⟩ := h14.form (by omega)
              rw [e49] at h14
              rw [hlen9] at e49 h14
              have H14 : Hid (W.ownsRow w1.heap.size 3 1 (.slice (some ⟨g', 0, none⟩) ((os.take kn ++ [(p : Int)]) ++ os.drop kn).length cap') ((os.take kn ++ [(p : Int)]) ++ os.drop kn).length (nuV ((os.take kn ++ [(p : Int)]) ++ os.drop kn))) := by
                rw [Hid, hlen9]; exact own_base h14 B9.out.size
              have HLEN : Hid (((os.take kn ++ [(p : Int)]) ++ os.drop kn).length = i + 1) := by rw [Hid, hlen9, HOL.out]
              have HLN : Hid (((os.take kn ++ [(p : Int)]) ++ os.drop kn).length = os.length + 1) := hlen9
              clear hp hj h14 hlen9 hD hLs
              unfold G.wpTail
              refine wpOp_step rfl (fun K hK => ?_)
              go_simp
              refine hK _ _ ?_
              clear hK
              unfold G.wpTail
              have HPW2 : Hid (((os.take kn ++ [(p : Int)]) ++ os.drop kn).Pairwise (LtZ l)) := by
                have hpw := HPW.out
                rw [← List.take_append_drop kn os, List.pairwise_append] at hpw
                rw [Hid, List.pairwise_append, List.pairwise_append]
                refine ⟨⟨hpw.1, by simp, fun u hu v hv => ?_⟩, hpw.2.1, fun u hu v hv => ?_⟩
                · simp only [List.mem_singleton] at hv; subst hv; exact HT.out u hu
                · simp only [List.mem_append, List.mem_singleton] at hu
                  rcases hu with hu | rfl
                  · exact hpw.2.2 u hu v hv
                  · exact HD.out v hv
              have HM2 : Hid (∀ z, z ∈ ((os.take kn ++ [(p : Int)]) ++ os.drop kn) ↔ z ∈ cs.take (i + 1)) := fun z => by
                rw [List.take_add_one, List.getElem?_eq_getElem hlt, HP.out, List.mem_append, List.mem_append, List.mem_append, ← HM.out z]
                have hto : z ∈ os ↔ z ∈ os.take kn ∨ z ∈ os.drop kn := by rw [← List.mem_append, List.take_append_drop]
                rw [hto]
                simp only [Option.toList, List.mem_singleton]
                constructor
                · rintro ((h | h) | h)
                  · exact .inl (.inl h)
                  · exact .inr h
                  · exact .inl (.inr h)
                · rintro ((h | h) | h)
                  · exact .inl (.inl h)
                  · exact .inr h
                  · exact .inl (.inr h)
              have HBE : Hid (Below w1.heap.size w1 W) := B9.out.trans (HBL.out.mono B9.out.size)
              go_wp2_with fail
              exact ⟨⟨i + 1, (os.take kn ++ [(p : Int)]) ++ os.drop kn, g', cap', by omega, by go_num, by rw [HLN.out], HLEN.out, H14.out, HBE.out, HPW2.out, HM2.out⟩, by simp [intOf]; omega⟩
          · have HLESS : Hid (∀ m, Calls Tryd.prog 41 #[.slice a l.length c, .int .i64 p, .int .i64 q] (w2.drewN m) fun e w' => e = .returned (.bool true) ∧ ∃ m', w' = (w2.drewN m).drewN m') := fun m => by
              have := spec_less a c l p q _ (HR.out _ (nu_drewN (O1.out _ H2B.out).2 m)) hpl hql
              rwa [hlb] at this
            have HD2 : Hid (∀ u ∈ os.drop j, LtZ l p u) := fun u hu => by
              rw [List.drop_eq_getElem_cons hjl, hq] at hu
              rcases List.mem_cons.1 hu with rfl | hu
              · exact ltZ_iff.1 hlb
              · exact HD.out u hu
            rw [← hkv]
            clear hq hkv hjl hlb
            go_wp2_with fail
            go_quiet ((go_at_call 41; exact Calls.quiet_of (HLESS.out _)))
            go_wp2_with fail
            exact ⟨⟨j, _, by first | rfl | go_num, by omega, by rw [H2.out, World.drewN_drewN], HD2⟩, by simp [intOf]; omega⟩
        · obtain ⟨w2, hw2⟩ : ∃ x, x = wo.drewN n := ⟨_, rfl⟩
          have H2 : Hid (w2 = wo.drewN n) := hw2
          rw [← hw2]
          clear hw2
          obtain ⟨kv, hkv⟩ : ∃ kv : Int, kv = (k : Int) := ⟨_, rfl⟩
          have hd : decide ((0 : Int) < kv) = false := decide_eq_false (by omega)
          have HT : Hid (∀ u ∈ os.take k, LtZ l u p) := fun u hu => by
            have : k = 0 := by omega
            subst this; simp at hu
          obtain ⟨kn, hkn⟩ : ∃ kn, kn = k := ⟨_, rfl⟩
          have HKN : Hid (kv = (kn : Int)) := by rw [Hid, hkv, hkn]
          have il : (i : Int) < (cs.length : Int) := by omega
          rw [← hkn] at HD HT hk
          rw [← hkv]
          clear hkn hkv hk0
          go_wp2_with fail
          go_quiet (fail)
          have HW9 : Hid (∃ m, w2.drewN nq = wo.drewN m) := ⟨_, by rw [H2.out, World.drewN_drewN]⟩
          clear hd H2
          obtain rfl := HKN.out
          go_wp2_with fail
          obtain ⟨w9, hw9⟩ : ∃ x, x = w2.drewN nq := ⟨_, rfl⟩
          rw [← hw9] at HW9 ⊢
          clear hw9
          obtain ⟨m9, hm9⟩ := HW9.out
          have B9 : Hid (Below w1.heap.size w1 w9) := by rw [Hid, hm9]; exact nu_drewN HB.out _
          have R9 : Hid (w9.ownsRow w1.heap.size 3 1 (.slice (some ⟨g, 0, none⟩) os.length cap) os.length (nuV os)) := by rw [Hid, hm9]; exact own_up HO.out (nu_drewN (Below.refl _ _) _)
          have XC9 : Hid (∀ W, Below w9.heap.size w9 W → W.cell? ⟨b1, o1 + i, none⟩ = some (.int .i64 p)) := fun W h => by
            obtain ⟨b2, o2, e2, _, _, x2⟩ := NuRow.cells (O1.out W (B9.out.trans (h.mono B9.out.size))).1 i hlt
            simp only [Option.some.injEq, Addr.mk.injEq, and_true] at e2
            rw [e2.1, e2.2, x2, HP.out]
          have hcap : Hid (os.length ≤ cap) := own_cap R9.out
          clear hm9 HW9 xc1
          refine G.region_rel5 (n := 15) (k := 1) (by omega) (by kernel_rfl) (by kernel_rfl) (by kernel_rfl) (fun y => ⟨#[(.slice a l.length c), undef, (.slice none 0 0), (.slice (some ⟨b1, o1, none⟩) cs.length c1), (.slice (some ⟨g, 0, none⟩) os.length cap), (.int .i64 ((i : Nat) : Int)), (.int .i64 ((kn : Nat) : Int)), (.slice a l.length c), (.slice (some ⟨b1, o1, none⟩) cs.length c1), (.slice (some ⟨w1.heap.size, 0, none⟩) 0 0), (.int .i64 ((i : Nat) : Int)), (.slice (some ⟨b1, o1, none⟩) cs.length c1), (.int .i64 ((cs.length : Nat) : Int)), (.bool true), u14, u15, (.slice (some ⟨g, 0, none⟩) os.length cap), (.int .i64 ((os.length : Nat) : Int)), (.int .i64 ((kn : Nat) : Int)), (.bool false), (.bool false), undef, undef, undef, undef, undef, undef, undef, undef, undef, undef, undef, (.bool false), u33, u34, (y 35), (y 36), (y 37), (y 38), (y 39), (y 40), (y 41), (y 42), (y 43), (y 44), (y 45), (y 46), (y 47), (y 48), (y 49), undef], []⟩) (fun nz => match nz with | 35 => u35 | 36 => u36 | 37 => u37 | 38 => u38 | 39 => u39 | 40 => u40 | 41 => u41 | 42 => u42 | 43 => u43 | 44 => u44 | 45 => u45 | 46 => u46 | 47 => u47 | 48 => u48 | 49 => u49 | _ => undef) (fun iz => [35, 36, 37, 38, 39, 40, 41, 42, 43, 44, 45, 46, 47, 48, 49].getD iz 0) (fun iz jz hi hj h => (by decide : ∀ i, i < 15 → ∀ j, j < 15 → [35, 36, 37, 38, 39, 40, 41, 42, 43, 44, 45, 46, 47, 48, 49].getD i 0 = [35, 36, 37, 38, 39, 40, 41, 42, 43, 44, 45, 46, 47, 48, 49].getD j 0 → i = j) iz hi jz hj h)
            (fun iz vq _ => match iz with | 1 => vq = .slice (some ⟨g, 0, none⟩) os.length cap | 2 => vq = .int .i64 (kn : Int) | 3 => vq = .slice (some ⟨g, 0, none⟩) kn cap | 5 => vq = .slice (some ⟨b1, o1, none⟩) cs.length c1 | 6 => vq = .int .i64 (i : Int) | 7 => vq = .pointer (some ⟨b1, o1 + i, none⟩) | 8 => vq = .int .i64 (p : Int) | 11 => vq = .slice (some ⟨g, 0, none⟩) os.length cap | 12 => vq = .int .i64 (kn : Int) | 13 => ∃ ad cc, vq = .slice (some ad) (os.drop kn).length cc ∧ (ad = ⟨g, kn, none⟩ ∨ os.drop kn = []) | _ => True) (fun L y W => WJL 0 (os.take kn) (os.drop kn) p w9 L y W) (WJL.start _) ?step ?last
          case step =>
            intro D y W iq hiq hLs hLi hj hdep
            have hcase : iq = 0 ∨ iq = 1 ∨ iq = 2 ∨ iq = 3 ∨ iq = 4 ∨ iq = 5 ∨ iq = 6 ∨ iq = 7 ∨ iq = 8 ∨ iq = 9 ∨ iq = 10 ∨ iq = 11 ∨ iq = 12 ∨ iq = 13 ∨ iq = 14 := by omega
            have hjb := hj.below
            have HJB : Hid (Below w9.heap.size w9 W) := hjb
            clear hiq hjb
            rcases hcase with rfl | rfl | rfl | rfl | rfl | rfl | rfl | rfl | rfl | rfl | rfl | rfl | rfl | rfl | rfl
            · refine wpOp_step rfl (fun K hK => ?_)
              clear hdep
              go_simp
              exact hK _ _ ⟨.slice (some ⟨W.heap.size, 0, none⟩) 0 0, by simp [G.upd], fun _ _ h => h, trivial, hj.at0 hLs hLi⟩
            · refine wpOp_step rfl (fun K hK => ?_)
              clear hdep
              go_simp
              exact hK _ _ ⟨.slice (some ⟨g, 0, none⟩) os.length cap, by simp [G.upd], fun _ _ h => h, rfl, hj.plain (by decide) (by decide) (by decide) (by decide) (by decide) (by decide) (by decide) (by decide) (by decide) (by decide)⟩
            · refine wpOp_step rfl (fun K hK => ?_)
              clear hdep
              go_simp
              exact hK _ _ ⟨.int .i64 (kn : Int), by simp [G.upd], fun _ _ h => h, rfl, hj.plain (by decide) (by decide) (by decide) (by decide) (by decide) (by decide) (by decide) (by decide) (by decide) (by decide)⟩
            · have d1 : y 36 = .slice (some ⟨g, 0, none⟩) os.length cap := (hdep _ rfl ⟨1, .data⟩ (by simp) rfl).2
              have d2 : y 37 = .int .i64 (kn : Int) := (hdep _ rfl ⟨2, .data⟩ (by simp) rfl).2
              have hc := hcap.out
              have hkc : kn ≤ cap := by omega
              have hkc' : (kn : Int) ≤ (cap : Int) := by omega
              clear hdep hc
              refine wpOp_step rfl (fun K hK => ?_)
              go_simp
              exact hK _ _ ⟨.slice (some ⟨g, 0, none⟩) kn cap, by simp [G.upd, d1, d2], fun _ _ h => h, rfl, hj.plain (by decide) (by decide) (by decide) (by decide) (by decide) (by decide) (by decide) (by decide) (by decide) (by decide)⟩
            · have d3 : y 38 = .slice (some ⟨g, 0, none⟩) kn cap := (hdep _ rfl ⟨3, .data⟩ (by simp) rfl).2
              have d0 : D.getD 0 false = true := (hdep _ rfl ⟨0, .data⟩ (by simp) rfl).1
              have hlk : (os.take kn).length = kn := by simp; omega
              obtain ⟨v', W', hrun, q1, q2, q3⟩ := app_list [] (os.take kn) (y 35) w9.heap.size ⟨g, 0, none⟩ cap W (hj.r0 d0 (gd_no hLi)) (fun jj zz hz => by
                obtain ⟨hz1, hz2⟩ := List.getElem?_eq_some_iff.1 hz
                have := own_cell (own_up (w' := W) R9.out (HJB.out.mono (by exact Nat.le_refl _))) jj (by omega)
                rw [List.getElem_take] at hz2
                rw [add_plain, Nat.zero_add, ← hz2]
                exact this) (by simp; omega) HJB.out.size
              rw [hlk] at hrun
              have HJ8 : Hid _ := hj.at4 hLs hLi d0 (by simpa using q1) q2 q3
              clear hdep q1 q2 q3
              refine wpOp_step rfl (fun K hK => ?_)
              refine G.wp_append_run9 (.tmp 35) (.tmp 38) _ rfl _ _ _ _ rfl d3 hrun ?_
              exact hK _ _ ⟨_, rfl, fun _ _ h => h, trivial, HJ8.out⟩
            · refine wpOp_step rfl (fun K hK => ?_)
              clear hdep
              go_simp
              exact hK _ _ ⟨.slice (some ⟨b1, o1, none⟩) cs.length c1, by simp [G.upd], fun _ _ h => h, rfl, hj.plain (by decide) (by decide) (by decide) (by decide) (by decide) (by decide) (by decide) (by decide) (by decide) (by decide)⟩
            · refine wpOp_step rfl (fun K hK => ?_)
              clear hdep
              go_simp
              exact hK _ _ ⟨.int .i64 (i : Int), by simp [G.upd], fun _ _ h => h, rfl, hj.plain (by decide) (by decide) (by decide) (by decide) (by decide) (by decide) (by decide) (by decide) (by decide) (by decide)⟩
            · have d5 : y 40 = .slice (some ⟨b1, o1, none⟩) cs.length c1 := (hdep _ rfl ⟨5, .data⟩ (by simp) rfl).2
              have d6 : y 41 = .int .i64 (i : Int) := (hdep _ rfl ⟨6, .data⟩ (by simp) rfl).2
              clear hdep
              refine wpOp_step rfl (fun K hK => ?_)
              go_simp
              exact hK _ _ ⟨.pointer (some ⟨b1, o1 + i, none⟩), by simp [G.upd, d5, d6], fun _ _ h => h, rfl, hj.plain (by decide) (by decide) (by decide) (by decide) (by decide) (by decide) (by decide) (by decide) (by decide) (by decide)⟩
            · have d7 : y 42 = .pointer (some ⟨b1, o1 + i, none⟩) := (hdep _ rfl ⟨7, .data⟩ (by simp) rfl).2
              have xW := XC9.out W HJB.out
              clear hdep
              refine wpOp_step rfl (fun K hK => ?_)
              go_simp
              exact hK _ _ ⟨.int .i64 (p : Int), by simp [G.upd, d7], fun _ _ h => h, rfl, hj.plain (by decide) (by decide) (by decide) (by decide) (by decide) (by decide) (by decide) (by decide) (by decide) (by decide)⟩
            · have d8 : y 43 = .int .i64 (p : Int) := (hdep _ rfl ⟨8, .data⟩ (by simp) rfl).2
              clear hdep
              refine wpOp_step rfl (fun K hK => ?_)
              go_simp
              exact hK _ _ ⟨.slice (some ⟨W.heap.size, 0, none⟩) 1 1, by simp [G.upd, d8], fun _ _ h => h, trivial, hj.at9 hLs hLi⟩
            · have d4 : D.getD 4 false = true := (hdep _ rfl ⟨4, .data⟩ (by simp) rfl).1
              have d9 : D.getD 9 false = true := (hdep _ rfl ⟨9, .data⟩ (by simp) rfl).1
              obtain ⟨h9, e9, c9, _, _⟩ := hj.r9 d9 (gd_no hLi)
              obtain ⟨v', W', hrun, q1, q2, q3⟩ := app_list (os.take kn) [(p : Int)] (y 39) w9.heap.size ⟨h9, 0, none⟩ 1 W (hj.r4 d4 (gd_no hLi)) (fun jj zz hz => by
                have : jj = 0 := by have := (List.getElem?_eq_some_iff.1 hz).1; simpa using this
                subst this
                simp only [List.getElem?_cons_zero, Option.some.injEq] at hz
                subst hz
                rw [add_plain]
                exact row_cell c9 0) (by simp; omega) HJB.out.size
              have HJ8 : Hid _ := hj.at10 hLs hLi d4 d9 q1 q2
              clear hdep q1 q2 q3 c9
              refine wpOp_step rfl (fun K hK => ?_)
              refine G.wp_append_run9 (.tmp 39) (.tmp 44) _ rfl _ _ _ _ rfl e9 hrun ?_
              exact hK _ _ ⟨_, rfl, fun _ _ h => h, trivial, HJ8.out⟩
            · refine wpOp_step rfl (fun K hK => ?_)
              clear hdep
              go_simp
              exact hK _ _ ⟨.slice (some ⟨g, 0, none⟩) os.length cap, by simp [G.upd], fun _ _ h => h, rfl, hj.plain (by decide) (by decide) (by decide) (by decide) (by decide) (by decide) (by decide) (by decide) (by decide) (by decide)⟩
            · refine wpOp_step rfl (fun K hK => ?_)
              clear hdep
              go_simp
              exact hK _ _ ⟨.int .i64 (kn : Int), by simp [G.upd], fun _ _ h => h, rfl, hj.plain (by decide) (by decide) (by decide) (by decide) (by decide) (by decide) (by decide) (by decide) (by decide) (by decide)⟩
            · have d11 : y 46 = .slice (some ⟨g, 0, none⟩) os.length cap := (hdep _ rfl ⟨11, .data⟩ (by simp) rfl).2
              have d12 : y 47 = .int .i64 (kn : Int) := (hdep _ rfl ⟨12, .data⟩ (by simp) rfl).2
              have hc := hcap.out
              have hdl : (os.drop kn).length = os.length - kn := by simp
              by_cases hkc : kn = cap
              · have hke : os.length = kn := by omega
                have hdn : os.drop kn = [] := by rw [List.drop_eq_nil_iff]; omega
                have HKE : Hid (os.length = kn) := hke
                have HDN : Hid (os.drop kn = []) := hdn
                rw [HKE.out] at d11
                rw [← hkc] at d11
                clear hdep hc hdl hdn hke
                refine wpOp_step rfl (fun K hK => ?_)
                go_simp
                exact hK _ _ ⟨.slice (some ⟨g, 0, none⟩) (os.drop kn).length 0, by rw [HDN.out]; simp [G.upd, d11, d12]; omega, fun _ _ h => h, ⟨_, _, rfl, .inr HDN.out⟩, hj.plain (by decide) (by decide) (by decide) (by decide) (by decide) (by decide) (by decide) (by decide) (by decide) (by decide)⟩
              · have hkc' : (kn : Int) < (cap : Int) := by omega
                have hkl : (kn : Int) ≤ (os.length : Int) := by omega
                have HDL : Hid _ := hdl
                clear hdep hc hdl
                refine wpOp_step rfl (fun K hK => ?_)
                go_simp
                exact hK _ _ ⟨.slice (some ⟨g, kn, none⟩) (os.drop kn).length (cap - kn), by rw [HDL.out]; simp [G.upd, d11, d12]; intro hx; omega, fun _ _ h => h, ⟨_, _, rfl, .inl rfl⟩, hj.plain (by decide) (by decide) (by decide) (by decide) (by decide) (by decide) (by decide) (by decide) (by decide) (by decide)⟩
            · have d10 : D.getD 10 false = true := (hdep _ rfl ⟨10, .data⟩ (by simp) rfl).1
              obtain ⟨ad, cc, d13, had⟩ : ∃ ad cc, y 48 = .slice (some ad) (os.drop kn).length cc ∧ (ad = ⟨g, kn, none⟩ ∨ os.drop kn = []) := (hdep _ rfl ⟨13, .data⟩ (by simp) rfl).2
              obtain ⟨v', W', hrun, q1, q2, q3⟩ := app_list (os.take kn ++ [(p : Int)]) (os.drop kn) (y 45) w9.heap.size ad cc W (hj.r10 d10 (gd_no hLi)) (fun jj zz hz => by
                rcases had with rfl | had
                · obtain ⟨hz1, hz2⟩ := List.getElem?_eq_some_iff.1 hz
                  have hz3 : kn + jj < os.length := by simp at hz1; omega
                  have := own_cell (own_up (w' := W) R9.out HJB.out) (kn + jj) hz3
                  rw [List.getElem_drop] at hz2
                  rw [add_plain, ← hz2]
                  exact this
                · rw [had] at hz; simp at hz) (by simp; omega) HJB.out.size
              have HJ8 : Hid _ := hj.at14 hLs hLi d10 q1 q2
              clear hdep q1 q2 q3
              refine wpOp_step rfl (fun K hK => ?_)
              refine G.wp_append_run9 (.tmp 45) (.tmp 48) _ rfl _ _ _ _ rfl d13 hrun ?_
              exact hK _ _ ⟨_, rfl, fun _ _ h => h, trivial, HJ8.out⟩
          case last =>
            intro D y W hLs hD hj hp
            have h14 := hj.r14 (hD 14 (by omega))
            have HBL : Hid (Below w9.heap.size w9 W) := hj.below
            have hlen9 : ((os.take kn ++ [(p : Int)]) ++ os.drop kn).length = os.length + 1 := by simp; omega
            obtain ⟨g', cap', e49, _, _⟩ := h14.form (by omega)
            rw [e49] at h14
            rw [hlen9] at e49 h14
            have H14 : Hid (W.ownsRow w1.heap.size 3 1 (.slice (some ⟨g', 0, none⟩) ((os.take kn ++ [(p : Int)]) ++ os.drop kn).length cap') ((os.take kn ++ [(p : Int)]) ++ os.drop kn).length (nuV ((os.take kn ++ [(p : Int)]) ++ os.drop kn))) := by
              rw [Hid, hlen9]; exact own_base h14 B9.out.size
            have HLEN : Hid (((os.take kn ++ [(p : Int)]) ++ os.drop kn).length = i + 1) := by rw [Hid, hlen9, HOL.out]
            have HLN : Hid (((os.take kn ++ [(p : Int)]) ++ os.drop kn).length = os.length + 1) := hlen9
            clear hp hj h14 hlen9 hD hLs
            unfold G.wpTail
            refine wpOp_step rfl (fun K hK => ?_)
            go_simp
            refine hK _ _ ?_
            clear hK
            unfold G.wpTail
            have HPW2 : Hid (((os.take kn ++ [(p : Int)]) ++ os.drop kn).Pairwise (LtZ l)) := by
              have hpw := HPW.out
              rw [← List.take_append_drop kn os, List.pairwise_append] at hpw
              rw [Hid, List.pairwise_append, List.pairwise_append]
              refine ⟨⟨hpw.1, by simp, fun u hu v hv => ?_⟩, hpw.2.1, fun u hu v hv => ?_⟩
              · simp only [List.mem_singleton] at hv; subst hv; exact HT.out u hu
              · simp only [List.mem_append, List.mem_singleton] at hu
                rcases hu with hu | rfl
                · exact hpw.2.2 u hu v hv
                · exact HD.out v hv
            have HM2 : Hid (∀ z, z ∈ ((os.take kn ++ [(p : Int)]) ++ os.drop kn) ↔ z ∈ cs.take (i + 1)) := fun z => by
              rw [List.take_add_one, List.getElem?_eq_getElem hlt, HP.out, List.mem_append, List.mem_append, List.mem_append, ← HM.out z]
              have hto : z ∈ os ↔ z ∈ os.take kn ∨ z ∈ os.drop kn := by rw [← List.mem_append, List.take_append_drop]
              rw [hto]
              simp only [Option.toList, List.mem_singleton]
              constructor
              · rintro ((h | h) | h)
                · exact .inl (.inl h)
                · exact .inr h
                · exact .inl (.inr h)
              · rintro ((h | h) | h)
                · exact .inl (.inl h)
                · exact .inr h
                · exact .inl (.inr h)
            have HBE : Hid (Below w1.heap.size w1 W) := B9.out.trans (HBL.out.mono B9.out.size)
            go_wp2_with fail
            exact ⟨⟨i + 1, (os.take kn ++ [(p : Int)]) ++ os.drop kn, g', cap', by omega, by go_num, by rw [HLN.out], HLEN.out, H14.out, HBE.out, HPW2.out, HM2.out⟩, by simp [intOf]; omega⟩
    · --END
      obtain rfl : i = cs.length := by omega
      clear hol
      have HF : Hid (os = witP l) := wit_of HPW.out fun z => by rw [← HCS.out, HM.out z, List.take_of_length_le (Nat.le_refl _)]
      obtain ⟨a', c', hv, ho⟩ := NuOwn.of HO.out
      have HO2 : Hid (NuOwn w.heap.size wo.heap.size wo a' os) := NuOwn.wide ho z1 (Nat.le_refl _)
      have HBE : Hid (Below w.heap.size w wo) := (O1.out _ HB.out).2
      rw [hv]
      clear ho hv
      go_wp2_with fail
      go_ret
      rw [← HF.out]
      exact ⟨a', c', rfl, HO2.out, HBE.out⟩
end Go.Proofs.YtgnonbghgcpnoaaDoor
