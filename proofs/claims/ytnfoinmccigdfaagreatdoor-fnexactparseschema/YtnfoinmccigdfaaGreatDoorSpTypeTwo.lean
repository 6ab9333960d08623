/- The program's reader of schemas: a type, its loop. -/
import Derived.Test.YtnfoinmccigdfaaGreatDoorSpType
namespace Go.Proofs.YtnfoinmccigdfaaGreatDoor
open Go.ChangeShapes Go.WideShapes Go.ChangeAt Go.RowKit
set_option linter.unusedVariables false

theorem pFdT_up {nm : ByteArray} {args : List G.Ag} {l : List Tk} {i j : Nat} {x : G.Fd} (h : pFdT nm args l i = some (x, j)) : i < j := by
  have ha : ∀ b n, n ≤ adv b n := fun b n => by unfold adv; split <;> omega
  unfold pFdT at h
  split at h
  · cases h
  · split at h
    · cases h
    · split at h
      · split at h
        · cases h
        · simp only [Option.some.injEq, Prod.mk.injEq] at h
          rw [← h.2]
          have h1 := ha true (i + 1)
          have h2 := ha (tkE (nxT l (adv true (i + 1) + 1 + 1)) ⟨4, 0, ⟨#[33]⟩⟩) (adv true (i + 1) + 1 + 1)
          omega
      · simp only [Option.some.injEq, Prod.mk.injEq] at h
        rw [← h.2]
        have h1 := ha false (i + 1)
        have h2 := ha (tkE (nxT l (adv false (i + 1) + 1)) ⟨4, 0, ⟨#[33]⟩⟩) (adv false (i + 1) + 1)
        omega
theorem many_up {α : Type} {st : Nat → Bool} {one : Nat → Option (α × Nat) → Prop} (hu : ∀ i x j, one i (some (x, j)) → i < j) {i : Nat} {r : Option (List α × Nat)} (h : Many st one i r) : ∀ xs j, r = some (xs, j) → i < j := by
  induction h with
  | stop _ => intro xs j e; cases e; omega
  | bad _ _ => intro xs j e; cases e
  | next _ _ _ _ => intro xs j e; cases e
  | more _ h2 _ ih => intro xs j e; cases e; have := hu _ _ _ h2; have := ih _ _ rfl; omega
theorem fdR_up {l : List Tk} {i j : Nat} {x : G.Fd} (h : FdR l i (some (x, j))) : i < j := by
  rcases h with ⟨_, e⟩ | ⟨_, ⟨_, e⟩ | ⟨_, ra, h1, ⟨_, e⟩ | ⟨args, j1, e1, e⟩⟩⟩
  · cases e
  · have := pFdT_up e.symm; omega
  · cases e
  · have h2 := pFdT_up e.symm
    subst e1
    rcases h1 with ⟨_, e⟩ | ⟨y, j2, r', h3, h4, e⟩
    · cases e
    · have h5 := pAg_up h3
      cases r' with
      | none => cases e
      | some p =>
        obtain ⟨xs, k⟩ := p
        simp only [ahead, Option.some.injEq, Prod.mk.injEq] at e
        have h6 := many_up (fun i x j (ho : agOne l i (some (x, j))) => pAg_up ho.symm) h4 xs k rfl
        omega
theorem getD_notT {L : Array Bool} {i : Nat} (h : L.getD i true = false) : L.getD i false = false := by
  have := G.getD_lt h
  simp only [Array.getD, this, dite_true] at h ⊢
  exact h
theorem getD_putT {L : Array Bool} {i : Nat} (h : L.getD i true = false) : (L.setIfInBounds i true).getD i false = true := by
  have := G.getD_lt h
  simp [Array.getD, this]
theorem own_formT {w : World} {base : Nat} {e : TypeId} {size : Nat} {v : Value} {n : Nat} {xs : List Value} (h : w.ownsRow base e size v n xs) : ∃ a c, v = .slice a n c := by
  rcases h.2 with ⟨rfl, h0⟩ | ⟨g, cap, cur, rfl, _⟩
  · exact ⟨none, 0, by rw [h0]⟩
  · exact ⟨_, _, rfl⟩
theorem wp_append_runT {P : Program} {o : Oper} {a : Act} {K : Act → World → Prop} {Q : Exit → Act → World → Prop} {w : World} (s x : Operand) (t : TypeId)
    (ho : o.op = .call { callee := .builtin .append, args := #[s, x], argTypes := #[t, t] }) (sv xv rv : Value) (w' : World) (hs : a.eval s = sv) (hx : a.eval x = xv)
    (hr : (Builtin.append_ #[t, t] o.type #[sv, xv]).run P w = .ok rv w') (h : K (a.put o.dst rv) w') : o.wp P a w K Q := by
  unfold Oper.wp execOp
  simp only [ho, resolve, invoke, builtin, Sem.run_bind, Sem.run_pure, Result.andThen_ok, List.map_toArray, List.map_cons, List.map_nil, hs, hx, hr]
  exact h
set_option maxHeartbeats 8000000 in
theorem sp_typeDef (ex : Array Value) (L c i : Nat) (a : Option Addr) (l : List Tk) (w : World) (h : RdSt 37 ex w L a c l i) (hl : l.length ≤ 1048576) :
    Calls Tryz.prog 28 #[.pointer (some ⟨L, 0, none⟩)] w (TdIs ex L a c l i w) := by
  obtain ⟨V, hV⟩ : ∃ V, V = w.alloc (.cells #[.string ⟨#[]⟩, .slice none 0 0] 49) := ⟨_, rfl⟩
  have BV : Below w.heap.size w V := by rw [hV]; exact (Below.refl _ _).alloc (Nat.le_refl _) _
  have cV : V.heap[w.heap.size]? = some (.cells #[.string ⟨#[]⟩, .slice none 0 0] 49 (0, 0)) := by rw [hV]; exact heap_alloc_new _ _
  have zV : w.heap.size < V.heap.size := by rw [hV]; simp
  have hLw := h.lt
  have HQ : Hid _ := rd_word 37 ex L c i a l ⟨#[116, 121, 112, 101]⟩ V (h.below BV) hl (by rw [ByteArray.toList_eq]; simp)
  have GV : Hid (w.grownBy V (some L)) := grown_below (grown_refl w _) BV
  have HCV : Hid _ := cV
  clear h BV cV
  go_enter Tryz.func28, Tryz.ntmps28
  go_upto_region 1 with fail
  rw [← hV]
  clear hV
  go_wp2_with fail
  refine Calls.mono HQ.out ?_
  rintro e w0 ⟨⟨hw, rfl, s0⟩ | ⟨hw, rfl⟩, g0⟩
  case inr =>
    have HE : Hid (TdR l i none) := .inl ⟨hw, rfl⟩
    have G1 : Hid (w.grownBy w0 (some L)) := grown_trans GV.out g0
    clear g0 HQ hw
    go_wp2_with fail
    exact ⟨rfl, ⟨none, HE.out, .inr ⟨rfl, rfl⟩⟩, G1.out⟩
  have HW : Hid ((nmI l i).toList = (⟨#[116, 121, 112, 101]⟩ : ByteArray).toList) := hw
  have G0 : Hid (w.grownBy w0 (some L)) := grown_trans GV.out g0
  have C0 : Hid (w0.heap[w.heap.size]? = some (.cells #[.string ⟨#[]⟩, .slice none 0 0] 49 (0, 0))) := grown_keeps HCV.out zV g0 (by omega)
  have HQ1 : Hid _ := rd_name 37 ex L c (i + 1) a l w0 s0 hl
  have z0 := g0.size
  clear hw s0 g0 HQ GV HCV
  go_wp2_with fail
  refine Calls.mono HQ1.out ?_
  rintro e w1 ⟨⟨hn, rfl, s1⟩ | ⟨hn, rfl⟩, g1⟩
  case inr =>
    have HE : Hid (TdR l i none) := .inr ⟨HW.out, .inl ⟨hn, rfl⟩⟩
    have G1 : Hid (w.grownBy w1 (some L)) := grown_trans G0.out g1
    clear g1 HQ1 hn
    go_wp2_with fail
    exact ⟨rfl, ⟨none, HE.out, .inr ⟨rfl, rfl⟩⟩, G1.out⟩
  have z1 := g1.size
  have HN1 : Hid ((nmI l (i + 1)).toList ≠ []) := hn
  obtain ⟨nm, hnm⟩ : ∃ z, z = nmI l (i + 1) := ⟨_, rfl⟩
  have HNM : Hid (nm = nmI l (i + 1)) := hnm
  rw [← hnm]
  obtain ⟨U, hU⟩ : ∃ U, U = w1.alloc (.cells #[.string nm, .slice none 0 0] 49) := ⟨_, rfl⟩
  have BU : Below w1.heap.size w1 U := by rw [hU]; exact (Below.refl _ _).alloc (Nat.le_refl _) _
  have F0 : Hid (TdS ex w L w.heap.size w1.heap.size a c l (i + 1 + 1) nm (.slice none 0 0) [] U) := by
    refine ⟨s1.below BU, (BU.block _ (by omega)).trans (grown_keeps C0.out (by omega) g1 (by omega)), by rw [hU]; exact heap_alloc_new _ _, grown_below (grown_trans G0.out g1) BU, FdsAt.start _ _, hLw, Nat.le_refl _, by omega⟩
  have HQ2 : Hid _ := rd_mustPass 37 ex L c (i + 1 + 1) a l ⟨#[123]⟩ U F0.out.rd hl
  obtain ⟨A, hA⟩ : ∃ z, z = w1.heap.size := ⟨_, rfl⟩
  rw [← hA] at F0
  clear hn s1 g1 HQ1 C0 G0 hnm BU
  go_upto_region 3 with fail
  rw [← hU]
  rw [← hA]
  clear hU hA
  go_wp2_with fail
  refine Calls.mono HQ2.out ?_
  rintro e w2 ⟨⟨hm, rfl, s2⟩ | ⟨hm, rfl⟩, g2⟩
  case inr =>
    have HE : Hid (TdR l i none) := .inr ⟨HW.out, .inr ⟨HN1.out, .inl ⟨hm, rfl⟩⟩⟩
    have G2 : Hid (w.grownBy w2 (some L)) := grown_trans F0.out.gr g2
    clear g2 HQ2 hm
    go_wp2_with fail
    exact ⟨rfl, ⟨none, HE.out, .inr ⟨rfl, rfl⟩⟩, G2.out⟩
  have F2 : Hid _ := F0.out.call s2 g2
  have hi3 := s2.le
  have HBAD : Hid (Many (rbrc l) (FdR l) (i + 1 + 1 + 1) none → TdR l i none) := fun hr => .inr ⟨HW.out, .inr ⟨HN1.out, .inr ⟨hm, none, hr, .inl ⟨rfl, rfl⟩⟩⟩⟩
  have HGOOD : Hid (∀ fs j, Many (rbrc l) (FdR l) (i + 1 + 1 + 1) (some (fs, j)) → TdR l i (some (⟨nm, fs⟩, j))) := fun fs j hr => .inr ⟨HW.out, .inr ⟨HN1.out, .inr ⟨hm, _, hr, .inr ⟨fs, j, rfl, by rw [HNM.out]⟩⟩⟩⟩
  clear hm s2 g2 HQ2 F0 HW HN1 HNM
  go_wp2_with fail
  go_loopw [21] (fun _ w' => ∃ (k : Nat) (ps : List (G.Fd × Value)) (av : Option Addr) (cv : Nat), ps.length + 1 ≤ k ∧ k ≤ l.length ∧ Hid (TdS ex w L w.heap.size A a c l k nm (.slice av ps.length cv) ps w') ∧ Hid (∀ r, Many (rbrc l) (FdR l) k r → Many (rbrc l) (FdR l) (i + 1 + 1 + 1) (ahead (ps.map (·.1)) r))) (fun _ w' => l.length - rdPos w' L)
  case atStart => exact ⟨i + 1 + 1 + 1, [], none, 0, by simp, hi3, F2, fun r hr => by cases r with | none => exact hr | some p => exact hr⟩
  case round =>
    obtain ⟨k, ps, av, cv, hpk, hk, HS, HM⟩ := hrel
    obtain ⟨wo, rfl⟩ : ∃ z, z = wr := ⟨_, rfl⟩
    have HQ : Hid _ := rd_passes 37 ex L c k a l ⟨#[125]⟩ wo HS.out.rd hl
    have HPO : Hid (rdPos wo L = k) := rdPos_of HS.out.rd
    obtain ⟨r, HR⟩ : ∃ r, Hid (r = tkE (nxT l k) ⟨4, 0, ⟨#[125]⟩⟩) := ⟨_, rfl⟩
    rw [← HR.out] at HQ
    go_wp2_with fail
    refine Calls.mono HQ.out ?_
    rintro e w3 ⟨rfl, s3, g3⟩
    have S3 : Hid _ := HS.out.call s3 g3
    clear s3 g3 HQ HS
    cases r with
    | true =>
      have HE : Hid (TdR l i (some (⟨nm, ps.map (·.1)⟩, k + 1))) := by
        have := HM.out _ (.stop HR.out.symm)
        simp only [ahead, List.append_nil] at this
        exact HGOOD.out _ _ this
      clear HM HR
      have yA := fun o => row_cell S3.out.bx o
      have yR := fun o => row_cell S3.out.r o
      have fR := fun o => row_frozen S3.out.r o
      go_wp2_with fail
      refine bodyPost_ret (v := .agg #[.string nm, .slice av ps.length cv]) (results_typeDef _ _ w.heap.size _ rfl (row_set (row_set S3.out.r 0 (.string nm)) 1 (.slice av ps.length cv)) rfl) rfl ⟨⟨_, HE.out, .inl ⟨nm, ps, k + 1, av, cv, rfl, rfl, ?_, ?_⟩⟩, ?_⟩
      · refine ⟨own_keepT S3.out.fs.own fun g hg => ?_, fun t ht => own_keepT (S3.out.fs.each t ht) fun g hg => ?_, S3.out.fs.apart⟩
        · have hne : g ≠ w.heap.size := by
            rintro rfl
            rcases S3.out.fs.own.2 with ⟨e1, _⟩ | ⟨g1, c1, u1, e1, _, q1, _⟩
            · rw [e1] at hg; simp [Value.ownBlock] at hg
            · rw [e1] at hg
              simp only [Value.ownBlock, Option.some.injEq] at hg
              rw [hg, S3.out.r] at q1
              simp at q1
          rw [heap_setCell_other _ _ _ _ hne, heap_setCell_other _ _ _ _ hne]
        · have hne : g ≠ w.heap.size := by
            rintro rfl
            rcases (S3.out.fs.each t ht).2 with ⟨e1, _⟩ | ⟨g1, c1, u1, e1, _, q1, _⟩
            · rw [e1] at hg; simp [Value.ownBlock] at hg
            · rw [e1] at hg
              simp only [Value.ownBlock, Option.some.injEq] at hg
              rw [hg, S3.out.r] at q1
              simp at q1
          rw [heap_setCell_other _ _ _ _ hne, heap_setCell_other _ _ _ _ hne]
      · refine S3.out.rd.keep fun g hg => ?_
        have hne : g ≠ w.heap.size := by omega
        rw [heap_setCell_other _ _ _ _ hne, heap_setCell_other _ _ _ _ hne]
      · repeat (refine grown_new ?_ (Nat.le_refl _) _)
        exact S3.out.gr
    | false =>
      go_upto_region 5 with fail
      obtain ⟨wd, hwd⟩ : ∃ z : World, z = w3.drew := ⟨_, rfl⟩
      have SD : Hid (TdS ex w L w.heap.size A a c l k nm (.slice av ps.length cv) ps wd) := by rw [Hid, hwd]; exact S3.out.same
      have HWD : Hid (wd = w3.drew) := hwd
      have hwz := SD.out.gr.size
      have HNN : Hid (∀ t (ht : t < ps.length) g, ps[t].2.ownBlock = some g → g < wd.heap.size) := fun t ht g hg => (World.ownsRow.lt (SD.out.fs.each t ht) g hg).2
      clear hwd S3
      refine G.region_rel5 (n := 7) (k := 1) (by omega) (by kernel_rfl) (by kernel_rfl) (by kernel_rfl) (fun u => ⟨#[.pointer (some ⟨L, 0, none⟩), undef, .pointer (some ⟨w.heap.size, 0, none⟩), .pointer (some ⟨A, 0, none⟩), .pointer (some ⟨L, 0, none⟩), .pointer (some ⟨L, 0, none⟩), .pointer (some ⟨L, 0, none⟩), .tuple #[], .pointer (some ⟨L, 0, none⟩), .pointer (some ⟨L, 0, none⟩), .pointer (some ⟨L, 0, none⟩), .string nm, .agg #[.string nm, .slice none 0 0], .pointer (some ⟨L, 0, none⟩), .pointer (some ⟨L, 0, none⟩), .pointer (some ⟨L, 0, none⟩), .tuple #[], .pointer (some ⟨L, 0, none⟩), .pointer (some ⟨L, 0, none⟩), .pointer (some ⟨L, 0, none⟩), .bool false, .bool true, u 22, u 23, u 24, u 25, u 26, u 27, u 28, undef], []⟩) (fun nz => match nz with | 22 => u22 | 23 => u23 | 24 => u24 | 25 => u25 | 26 => u26 | 27 => u27 | 28 => u28 | _ => undef) (fun iz => iz + 22) (fun iz jz _ _ h => by omega)
        (fun iz y _ => match iz with | 0 => y = .pointer (some ⟨A, 1, none⟩) | 1 => y = .slice av ps.length cv | 2 => y = .pointer (some ⟨L, 0, none⟩) | 6 => y = .pointer (some ⟨A, 1, none⟩) | _ => True) (fun D u W => TyJ ex w wd L w.heap.size A a c l k nm (.slice av ps.length cv) ps D u W) (.inl ⟨by simp, by simp, by simp, HWD.out.symm⟩) ?step ?last
      case step =>
        intro D u W iq hi hLs hLi hj hdep
        have HJ : Hid (TyJ ex w wd L w.heap.size A a c l k nm (.slice av ps.length cv) ps D u W) := hj
        have HLI : Hid _ := hLi
        have xA := fun o => row_cell (hj.box SD.out.bx) o
        have hcase : iq = 0 ∨ iq = 1 ∨ iq = 2 ∨ iq = 3 ∨ iq = 4 ∨ iq = 5 ∨ iq = 6 := by omega
        clear hj hLi hi hLs
        rcases hcase with rfl | rfl | rfl | rfl | rfl | rfl | rfl
        · clear hdep
          refine wpOp_step rfl (fun K hK => ?_)
          go_simp
          exact hK _ _ ⟨.pointer (some ⟨A, 1, none⟩), by simp [G.upd], fun _ _ h => h, rfl, HJ.out.other (by decide) (by decide) (by decide) (by decide) (by decide) (by decide)⟩
        · have d0 : u 22 = .pointer (some ⟨A, 1, none⟩) := (hdep _ rfl ⟨0, .data⟩ (by simp) rfl).2
          clear hdep
          refine wpOp_step rfl (fun K hK => ?_)
          go_simp
          exact hK _ _ ⟨.slice av ps.length cv, by simp [G.upd, d0], fun _ _ h => h, rfl, HJ.out.other (by decide) (by decide) (by decide) (by decide) (by decide) (by decide)⟩
        · clear hdep
          refine wpOp_step rfl (fun K hK => ?_)
          go_simp
          exact hK _ _ ⟨.pointer (some ⟨L, 0, none⟩), by simp [G.upd], fun _ _ h => h, rfl, HJ.out.other (by decide) (by decide) (by decide) (by decide) (by decide) (by decide)⟩
        · have d2 : u 24 = .pointer (some ⟨L, 0, none⟩) := (hdep _ rfl ⟨2, .data⟩ (by simp) rfl).2
          obtain ⟨b4, b5, hW⟩ : D.getD 4 false = false ∧ D.getD 5 false = false ∧ W = wd := by
            have h3 := getD_notT HLI.out
            rcases HJ.out with ⟨_, h4, h5, e⟩ | ⟨h, _⟩ | ⟨h, _⟩ | ⟨h, _⟩
            · exact ⟨h4, h5, e⟩
            all_goals rw [h3] at h; cases h
          clear hdep HJ xA
          replace hW := hW.symm
          subst hW
          have HQF : Hid _ := sp_fieldDef ex L c k a l wd SD.out.rd hl
          refine wpOp_step rfl (fun K hK => ?_)
          go_simp
          refine Calls.mono HQF.out ?_
          rintro e w4 ⟨⟨r4, hr4, ⟨x, q, avx, rfl, rfl, ox, sx⟩ | ⟨rfl, rfl⟩⟩, g4⟩
          · obtain ⟨aA, cA, rfl⟩ := own_formT ox
            refine hK _ _ ⟨.agg (fdC x aA cA), by simp [G.upd, d2, fdV, fdC], fun _ _ h => h, trivial, .inr (.inl ⟨getD_putT HLI.out, ?_, ?_, x, q, aA, cA, ⟨SD.out.call sx g4, hr4, ox⟩, by rw [G.upd_at]⟩)⟩
            · rw [getD_set_ne false (by decide)]; exact b4
            · rw [getD_set_ne false (by decide)]; exact b5
          · have HE : Hid (TdR l i none) := HBAD.out (HM.out _ (.bad HR.out.symm hr4))
            have G4 : Hid (w.grownBy w4 (some L)) := grown_trans SD.out.gr g4
            exact ⟨rfl, ⟨none, HE.out, .inr ⟨rfl, rfl⟩⟩, G4.out⟩
        · have l3 := (hdep _ rfl ⟨3, .data⟩ (by simp) rfl).1
          obtain ⟨b5, x, q, aA, cA, hgot, d3⟩ : D.getD 5 false = false ∧ ∃ x q aA cA, GotF ex w wd L w.heap.size A a c l k nm (.slice av ps.length cv) ps x q aA cA W ∧ u 25 = .agg (fdC x aA cA) := by
            have h4 := getD_notT HLI.out
            rcases HJ.out with ⟨h, _⟩ | ⟨_, _, h5, e⟩ | ⟨_, h, _⟩ | ⟨_, h, _⟩
            · rw [l3] at h; cases h
            · exact ⟨h5, e⟩
            all_goals rw [h4] at h; cases h
          have HGOT : Hid _ := hgot
          clear hdep HJ xA hgot
          refine wpOp_step rfl (fun K hK => ?_)
          go_simp
          refine hK _ _ ⟨.slice (some ⟨W.heap.size, 0, none⟩) 1 1, by simp [G.upd, d3], fun _ _ h => h, trivial, .inr (.inr (.inl ⟨?_, getD_putT HLI.out, ?_, x, q, aA, cA, W, HGOT.out, rfl, by rw [G.upd_at]⟩))⟩
          · rw [getD_set_ne false (by decide)]; exact l3
          · rw [getD_set_ne false (by decide)]; exact b5
        · have l4 := (hdep _ rfl ⟨4, .data⟩ (by simp) rfl).1
          have d1 : u 23 = .slice av ps.length cv := (hdep _ rfl ⟨1, .data⟩ (by simp) rfl).2
          obtain ⟨l3, x, q, aA, cA, W3, hgot, hW, d4⟩ : D.getD 3 false = true ∧ ∃ x q aA cA W3, GotF ex w wd L w.heap.size A a c l k nm (.slice av ps.length cv) ps x q aA cA W3 ∧ W = W3.alloc (.cells (fdC x aA cA) 53) ∧ u 26 = .slice (some ⟨W3.heap.size, 0, none⟩) 1 1 := by
            have h5 := getD_notT HLI.out
            rcases HJ.out with ⟨_, h, _⟩ | ⟨_, h, _⟩ | ⟨h3, _, _, e⟩ | ⟨_, _, h, _⟩
            · rw [l4] at h; cases h
            · rw [l4] at h; cases h
            · exact ⟨h3, e⟩
            · rw [h5] at h; cases h
          obtain ⟨g8, cap8, W8, hrun, hput⟩ := hgot.put (nv := 0) hwz HNN.out (by omega)
          clear hdep HJ xA
          subst hW
          refine wpOp_step rfl (fun K hK => ?_)
          refine wp_append_runT (.tmp 23) (.tmp 26) _ rfl _ _ _ _ d1 d4 hrun ?_
          refine hK _ _ ⟨.slice (some ⟨g8, 0, none⟩) (ps.length + 1) cap8, by simp [Act.put, G.upd, d1, d4], fun _ _ h => h, trivial, .inr (.inr (.inr ⟨?_, ?_, getD_putT HLI.out, x, q, aA, cA, g8, cap8, hput, by rw [G.upd_at]⟩))⟩
          · rw [getD_set_ne false (by decide)]; exact l3
          · rw [getD_set_ne false (by decide)]; exact l4
        · clear hdep
          refine wpOp_step rfl (fun K hK => ?_)
          go_simp
          exact hK _ _ ⟨.pointer (some ⟨A, 1, none⟩), by simp [G.upd], fun _ _ h => h, rfl, HJ.out.other (by decide) (by decide) (by decide) (by decide) (by decide) (by decide)⟩
      case last =>
        intro D u W hLs hD hj hp
        obtain ⟨x, q, aA, cA, g8, cap8, hput, d5⟩ : ∃ x q aA cA g8 cap8, PutF ex w wd L w.heap.size A a c l k nm (.slice av ps.length cv) ps x q aA cA g8 cap8 W ∧ u 27 = .slice (some ⟨g8, 0, none⟩) (ps.length + 1) cap8 := by
          rcases hj with ⟨h, _⟩ | ⟨_, h, _⟩ | ⟨_, _, h, _⟩ | ⟨_, _, _, e⟩
          · rw [hD 3 (by omega)] at h; cases h
          · rw [hD 4 (by omega)] at h; cases h
          · rw [hD 5 (by omega)] at h; cases h
          · exact e
        have d6 : u 28 = .pointer (some ⟨A, 1, none⟩) := hp 6 (by omega)
        have HPUT : Hid _ := hput
        have hkq := fdR_up hput.fd
        have hq := hput.rd.le
        have HM2 : Hid (∀ r, Many (rbrc l) (FdR l) q r → Many (rbrc l) (FdR l) (i + 1 + 1 + 1) (ahead ((ps ++ [(x, Value.slice aA x.args.length cA)]).map (·.1)) r)) := fun r hr => by
          have := HM.out _ (Many.step HR.out.symm HPUT.out.fd hr)
          rw [ahead_ahead] at this
          simpa using this
        have SN : Hid (TdS ex w L w.heap.size A a c l q nm (.slice (some ⟨g8, 0, none⟩) (ps ++ [(x, Value.slice aA x.args.length cA)]).length cap8) (ps ++ [(x, .slice aA x.args.length cA)]) (W.setCell ⟨A, 1, none⟩ (.slice (some ⟨g8, 0, none⟩) (ps.length + 1) cap8))) := by
          have h1 := SD.out.hL
          have h2 := SD.out.hA
          refine ⟨hput.rd.keep fun g hg => heap_setCell_other _ _ _ _ (by show g ≠ A; omega), ?_, ?_, grown_new hput.gr (by omega) _, ?_, h1, SD.out.hR, h2⟩
          · rw [heap_setCell_other _ _ _ _ (by show w.heap.size ≠ A; omega)]; exact hput.r
          · have := row_set hput.bx 1 (.slice (some ⟨g8, 0, none⟩) (ps.length + 1) cap8)
            simpa using this
          · have hf := hput.fs
            rw [show (ps ++ [(x, Value.slice aA x.args.length cA)]).length = ps.length + 1 by simp]
            refine ⟨own_keepT hf.own fun g hg => ?_, fun t ht => own_keepT (hf.each t ht) fun g hg => ?_, hf.apart⟩
            · refine heap_setCell_other _ _ _ _ ?_
              show g ≠ A
              rintro rfl
              rcases hf.own.2 with ⟨e1, _⟩ | ⟨g1, c1, u1, e1, _, q1, _⟩
              · rw [e1] at hg; simp [Value.ownBlock] at hg
              · rw [e1] at hg
                simp only [Value.ownBlock, Option.some.injEq] at hg
                rw [hg, hput.bx] at q1
                simp at q1
            · refine heap_setCell_other _ _ _ _ ?_
              show g ≠ A
              rintro rfl
              rcases (hf.each t ht).2 with ⟨e1, _⟩ | ⟨g1, c1, u1, e1, _, q1, _⟩
              · rw [e1] at hg; simp [Value.ownBlock] at hg
              · rw [e1] at hg
                simp only [Value.ownBlock, Option.some.injEq] at hg
                rw [hg, hput.bx] at q1
                simp at q1
        have HP8 : Hid (rdPos (W.setCell ⟨A, 1, none⟩ (.slice (some ⟨g8, 0, none⟩) (ps.length + 1) cap8)) L = q) := rdPos_of SN.out.rd
        have yA := fun o => row_cell hput.bx o
        have fA := fun o => row_frozen hput.bx o
        clear hp hj hD hput HM HR SD
        unfold G.wpTail
        refine wpOp_step rfl (fun K hK => ?_)
        go_simp
        refine hK _ _ ?_
        clear hK
        unfold G.wpTail
        go_wp2_with fail
        exact ⟨⟨q, ps ++ [(x, .slice aA x.args.length cA)], some ⟨g8, 0, none⟩, cap8, by simp; omega, hq, SN, HM2⟩, by rw [HP8.out, HPO.out]; omega⟩
end Go.Proofs.YtnfoinmccigdfaaGreatDoor
