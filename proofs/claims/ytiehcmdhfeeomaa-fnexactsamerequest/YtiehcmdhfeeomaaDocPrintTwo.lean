/- The specification's printing of a document. -/
import Derived.Test.YtiehcmdhfeeomaaDocPrint
namespace Go.Proofs.Ytiehcmdhfeeomaa
open Go.ChangeShapes Go.WideShapes Go.ChangeAt Go.RowKit
set_option linter.unusedVariables false

def nmP (x : De) : List UInt8 := if noB x.nm then [] else 32 :: nl x.nm
def onP (x : De) : List UInt8 := if noB x.on then [] else 32 :: 111 :: 110 :: 32 :: nl x.on
theorem defP_parts (x : De) : defP x = kindP x.k ++ (nmP x ++ (onP x ++ 32 :: 123 :: selsP x.sels)) := rfl
theorem kind_len (k : Int) : (kindP k).length ≤ 8 := by unfold kindP; split <;> (try split) <;> simp
theorem nmP_len {x : De} (h : x.nm.size ≤ 40) : (nmP x).length ≤ 41 := by unfold nmP; split <;> simp only [List.length_cons, List.length_nil, nl_len] <;> omega
theorem onP_len {x : De} (h : x.on.size ≤ 40) : (onP x).length ≤ 44 := by unfold onP; split <;> simp only [List.length_cons, List.length_nil, nl_len] <;> omega

set_option maxHeartbeats 4000000 in
set_option maxRecDepth 40000 in
theorem spec_docPrint (a : Option Addr) (c : Nat) (l : List De) (w : World) (hr : DeRow 0 w.heap.size w a l) (hl : l.length ≤ 6) (hg : ∀ x ∈ l, DeGood x ∧ x.sels.size ≤ 60) :
    Calls Try.prog 22 #[.agg #[.slice a l.length c]] w fun e w' => e = .returned (.string (bl (docP l))) ∧ Below w.heap.size w w' := by
  obtain ⟨W, hW⟩ : ∃ W, W = w.alloc (.cells #[.slice a l.length c] 29) := ⟨_, rfl⟩
  have B0 : Below w.heap.size w W := by rw [hW]; exact (Below.refl _ _).alloc (Nat.le_refl _) _
  have zW : W.heap.size = w.heap.size + 1 := by rw [hW]; simp
  have R1 : Hid (DeRow 0 W.heap.size W a l) := DeRow.up hr B0
  have QB : Hid (Below w.heap.size w W) := B0
  have HG : Hid (∀ x ∈ l, DeGood x ∧ x.sels.size ≤ 60) := hg
  have hx : W.heap[w.heap.size]? = some (.cells #[.slice a l.length c] 29 (0, 0)) := by rw [hW]; exact heap_alloc_new _ _
  have HX : Hid (∀ W', Below W.heap.size W W' → W'.cell? ⟨w.heap.size, 0, none⟩ = some (.slice a l.length c)) := fun W' hB => row_cell ((hB.block w.heap.size (by omega)).trans hx) 0
  clear hr B0 hx hg
  go_enter Try.func22, Try.ntmps22
  go_wp2_with fail
  rw [← hW]
  clear hW
  go_loopw [3, 4] (fun s i w' => ∃ k : Nat, k ≤ l.length ∧ i = .int .i64 k ∧ Below W.heap.size W w' ∧ Hid (w'.ownsRow W.heap.size 9 1 s k (dws l k))) (fun _ i _ => l.length - (intOf i).toNat)
  case atStart => exact ⟨0, by omega, rfl, (Below.refl _ _).alloc (Nat.le_refl _) _, ⟨by simp [dws, dTexts], .inr ⟨W.heap.size, 0, #[], by rw [zW], Nat.le_refl _, heap_alloc_new _ _, Nat.le_refl _, Nat.zero_le _, rfl, by simp [dws, dTexts]⟩⟩⟩
  case round =>
    rename_i wr
    obtain ⟨k, hk, rfl, hb, HO⟩ := hrel
    have x0 := HX.out _ hb
    have hz := hb.size
    by_cases hlt : k < l.length
    · obtain ⟨b, o, a3, c3, ha, _, hbl, d0, d1, d2, d3, r3⟩ := DeRow.cells (DeRow.keep R1.out (Below.agree hb (Nat.le_refl _))) k hlt
      subst ha
      have GX : Hid (DeGood l[k]) := (HG.out _ (List.getElem_mem hlt)).1
      have h60 : l[k].sels.size ≤ 60 := (HG.out _ (List.getElem_mem hlt)).2
      have K3 : Hid (SelRow 0 wr.heap.size wr a3 l[k].sels) := SelRow.wide r3 (Nat.le_refl _) hz
      clear r3
      go_upto_region 6 with fail
      obtain ⟨WX, hWX⟩ : ∃ X, X = wr.alloc (.cells #[.int .i64 l[k].k, .string l[k].nm, .string l[k].on, .slice a3 l[k].sels.len c3] 71) := ⟨_, rfl⟩
      rw [← hWX]
      have zX : WX.heap.size = wr.heap.size + 1 := by rw [hWX]; simp
      have bX : Below wr.heap.size wr WX := by rw [hWX]; exact (Below.refl _ _).alloc (Nat.le_refl _) _
      have hX : WX.heap[wr.heap.size]? = some (.cells #[.int .i64 l[k].k, .string l[k].nm, .string l[k].on, .slice a3 l[k].sels.len c3] 71 (0, 0)) := by rw [hWX]; exact heap_alloc_new _ _
      have KX : Hid (∀ W', Below WX.heap.size WX W' → W'.cell? ⟨wr.heap.size, 0, none⟩ = some (.int .i64 l[k].k) ∧ W'.cell? ⟨wr.heap.size, 1, none⟩ = some (.string l[k].nm) ∧ W'.cell? ⟨wr.heap.size, 2, none⟩ = some (.string l[k].on) ∧ W'.cell? ⟨wr.heap.size, 3, none⟩ = some (.slice a3 l[k].sels.len c3) ∧ Below wr.heap.size wr W') := fun W' hB => by
        have e := (hB.block wr.heap.size (by omega)).trans hX
        exact ⟨row_cell e 0, row_cell e 1, row_cell e 2, row_cell e 3, bX.trans (hB.mono (by omega))⟩
      clear hWX hX bX d0 d1 d2 d3
      go_cut [6] from 20 to 24 (fun s wx => s = .string (bl (kindP l[k].k)) ∧ Below WX.heap.size WX wx)
      case first =>
        obtain ⟨y0, y1, y2, y3, _⟩ := KX.out _ (Below.refl _ _)
        have yp := fun o => (World.cell?_alloc_past (w := WX) o wr.heap.size 0 (by omega)).trans y0
        have hkk := GX.out.kind
        generalize l[k].k = kk at *
        rcases hkk with rfl | rfl | rfl
        · go_wp2_with fail
          go_meet
          exact ⟨rfl, (Below.refl _ _).alloc (Nat.le_refl _) _⟩
        · go_wp2_with fail
          go_meet
          exact ⟨rfl, (Below.refl _ _).alloc (Nat.le_refl _) _⟩
        · go_wp2_with fail
          go_meet
          exact ⟨rfl, (Below.refl _ _).alloc (Nat.le_refl _) _⟩
      obtain ⟨rfl, hB1⟩ := hcut
      obtain ⟨W1, rfl⟩ : ∃ X, X = wc := ⟨wc, rfl⟩
      obtain ⟨y0, y1, y2, y3, hY⟩ := KX.out _ hB1
      have HB1 : Hid (Below wr.heap.size wr W1) := hY
      clear hY hB1 x0
      have sn := GX.out.nm
      have so := GX.out.on
      have lk := kind_len l[k].k
      have lkb := bl_size (kindP l[k].k)
      go_upto_if 27 with fail
      go_cut [6] from 25 to 32 (fun s wx => s = .string (bl (kindP l[k].k ++ nmP l[k])) ∧ wx = W1)
      case first =>
        cases hno : noB l[k].nm
        · have he : ¬ l[k].nm.toList = [] := by unfold noB at hno; rw [List.isEmpty_eq_false_iff] at hno; exact hno
          have hne : (l[k].nm.toList == []) = false := by rw [beq_no]; exact hno
          have hie : l[k].nm.toList.isEmpty = false := hno
          have n1 : ¬ (9223372036854775807 < 1 + l[k].nm.size) := by omega
          have n2 : ¬ (9223372036854775807 < (bl (kindP l[k].k)).size + (1 + l[k].nm.size)) := by omega
          have n3 : ¬ (9223372036854775807 < (⟨#[32]⟩ : ByteArray).size + l[k].nm.size) := n1
          have n4 : ¬ (9223372036854775807 < (bl (kindP l[k].k)).size + ((⟨#[32]⟩ : ByteArray) ++ l[k].nm).size) := by rw [ByteArray.size_append]; exact n2
          have HP : Hid (bl (kindP l[k].k) ++ ((⟨#[32]⟩ : ByteArray) ++ l[k].nm) = bl (kindP l[k].k ++ nmP l[k])) := by
            refine bl_of ?_
            rw [nl_app, nl_app, nl_bl]
            unfold nmP; rw [hno]; simp [nl_lit]
          clear hno
          simp only [hie, Bool.not_false]
          go_wp2_with fail
          go_meet
          exact ⟨by rw [HP.out], rfl⟩
        · have he : l[k].nm.toList = [] := by unfold noB at hno; rw [List.isEmpty_iff] at hno; exact hno
          have hne : (l[k].nm.toList == []) = true := by rw [beq_no]; exact hno
          have hie : l[k].nm.toList.isEmpty = true := hno
          have HP : Hid (bl (kindP l[k].k) = bl (kindP l[k].k ++ nmP l[k])) := by
            unfold Hid nmP; rw [hno]; simp
          clear hno
          simp only [hie, Bool.not_true]
          go_wp2_with fail
          go_meet
          exact ⟨by rw [← HP.out], rfl⟩
      obtain ⟨rfl, hwc⟩ := hcut
      obtain rfl := hwc.symm
      have ln := nmP_len sn
      have lnb := bl_size (kindP l[k].k ++ nmP l[k])
      rw [List.length_append] at lnb
      go_upto_if 35 with fail
      go_cut [6] from 33 to 40 (fun s wx => s = .string (bl (kindP l[k].k ++ (nmP l[k] ++ onP l[k]))) ∧ wx = W1)
      case first =>
        by_cases h3 : l[k].k = 3
        · have g3 : (l[k].k == 3) = true := by rw [beq_iff_eq]; exact h3
          have hno := GX.out.yes h3
          have n1 : ¬ (9223372036854775807 < 4 + l[k].on.size) := by omega
          have n2 : ¬ (9223372036854775807 < (bl (kindP l[k].k ++ nmP l[k])).size + (4 + l[k].on.size)) := by omega
          have n3 : ¬ (9223372036854775807 < (⟨#[32, 111, 110, 32]⟩ : ByteArray).size + l[k].on.size) := n1
          have n4 : ¬ (9223372036854775807 < (bl (kindP l[k].k ++ nmP l[k])).size + ((⟨#[32, 111, 110, 32]⟩ : ByteArray) ++ l[k].on).size) := by rw [ByteArray.size_append]; exact n2
          have HP : Hid (bl (kindP l[k].k ++ nmP l[k]) ++ ((⟨#[32, 111, 110, 32]⟩ : ByteArray) ++ l[k].on) = bl (kindP l[k].k ++ (nmP l[k] ++ onP l[k]))) := by
            refine bl_of ?_
            rw [nl_app, nl_app, nl_bl]
            unfold onP; rw [hno]; simp [nl_lit]
          clear h3 hno
          go_wp2_with fail
          go_meet
          exact ⟨by rw [HP.out], rfl⟩
        · have g3 : (l[k].k == 3) = false := by rw [beq_eq_false_iff_ne]; exact h3
          have hno := GX.out.no h3
          have HP : Hid (bl (kindP l[k].k ++ nmP l[k]) = bl (kindP l[k].k ++ (nmP l[k] ++ onP l[k]))) := by
            unfold Hid onP; rw [hno]; simp
          clear h3 hno
          go_wp2_with fail
          go_meet
          exact ⟨by rw [← HP.out], rfl⟩
      obtain ⟨rfl, hwc⟩ := hcut
      obtain rfl := hwc.symm
      have lo := onP_len so
      have lob := bl_size (kindP l[k].k ++ (nmP l[k] ++ onP l[k]))
      rw [List.length_append, List.length_append] at lob
      have lsl := selsP_len l[k].sels GX.out.ok
      have lsb := bl_size (123 :: selsP l[k].sels)
      rw [List.length_cons] at lsb
      have n1 : ¬ (9223372036854775807 < (bl (kindP l[k].k ++ (nmP l[k] ++ onP l[k]))).size + 1) := by omega
      have n2 : ¬ (9223372036854775807 < (bl (kindP l[k].k ++ (nmP l[k] ++ onP l[k]))).size + 1 + (bl (123 :: selsP l[k].sels)).size) := by omega
      have n3 : ¬ (9223372036854775807 < (bl (kindP l[k].k ++ (nmP l[k] ++ onP l[k]))).size + (⟨#[32]⟩ : ByteArray).size) := n1
      have n4 : ¬ (9223372036854775807 < (bl (kindP l[k].k ++ (nmP l[k] ++ onP l[k])) ++ (⟨#[32]⟩ : ByteArray)).size + (bl (123 :: selsP l[k].sels)).size) := by rw [ByteArray.size_append]; exact n2
      have HP : Hid ((bl (kindP l[k].k ++ (nmP l[k] ++ onP l[k])) ++ (⟨#[32]⟩ : ByteArray)) ++ bl (123 :: selsP l[k].sels) = bl (defP l[k])) := by
        refine bl_of ?_
        rw [nl_app, nl_app, nl_bl, nl_bl, defP_parts]
        simp [nl_lit]
      have TS : Hid (Text_set l[k].sels) := text_set l[k].sels 7 GX.out.ok h60
      have z1 := HB1.out.size
      clear lo lob lsl lsb lk lkb ln lnb sn so h60
      go_wp2_with fail
      refine (TS.out a3 c3 _ (SelRow.up K3.out HB1.out)).mono ?_
      rintro e w9 ⟨rfl, hb9⟩
      have z9 := hb9.size
      have H9 : Hid (Below wr.heap.size wr w9) := HB1.out.trans (hb9.mono z1)
      clear hb9
      generalize hT : (bl (kindP l[k].k ++ (nmP l[k] ++ onP l[k])) ++ (⟨#[32]⟩ : ByteArray)) ++ bl (123 :: selsP l[k].sels) = T at HP
      obtain ⟨i9, hi9, hz9, hs9, hy9⟩ := info_parts info9
      have HO4 : Hid ((w9.alloc (.cells #[.string T] 9)).ownsRow W.heap.size 9 1 _ k _) := (own_below HO.out H9.out).alloc _
      go_wp2_with (at_builtin; refine wpList_append_own _ rfl _ _ 75 rfl W.heap.size 9 i9 _ 1 16 Try.underlying75 hi9 hz9 hs9 hy9 rfl (by decide) _ k _ rfl HO4.out ⟨w9.heap.size, 0, none⟩ 1 1 [.string T] rfl rfl ?c1 ?c2 ?c3 ?c4 ?c5 ?_)
      case c1 =>
        intro j u hu
        cases j with
        | zero => simp at hu; subst hu; simp [Addr.add]
        | succ j => simp at hu
      case c2 => intro u hu; simp at hu; subst hu; rfl
      case c3 => unfold maxLen; omega
      case c4 => omega
      case c5 => simp; omega
      intro v' w3 hown hgrow _
      have q3 : Hid (Below W.heap.size W w3) := ((hb.trans (H9.out.mono hz)).alloc (by omega) _).grown hgrow (by simp; omega) (fun g hg => (World.ownsRow.lt HO4.out g hg).1)
      rw [HP.out, dws_take hlt] at hown
      have HW : Hid (w3.ownsRow W.heap.size 9 1 v' (k + 1) (dws l (k + 1))) := by unfold Hid; rw [zW]; exact hown
      clear hown hgrow
      go_wp2_with fail
      go_roundw
      case rel => exact ⟨k + 1, by omega, by go_num, q3.out, HW⟩
      case measure => simp [intOf]; omega
    · obtain rfl : k = l.length := by omega
      have HO2 : wr.ownsRow W.heap.size 9 1 u3 l.length ((dTexts l).map Value.string) := by
        have := HO.out
        unfold dws at this
        rwa [List.take_length] at this
      obtain ⟨a', c', hv, hrow⟩ := own_strs HO2
      subst hv
      have HW : Hid (StrRow wr a' (dTexts l)) := hrow
      have HQ : Hid (Below w.heap.size w wr) := QB.out.trans (hb.mono (by omega))
      have hln : (dTexts l).length = l.length := by simp [dTexts]
      have HL : Hid ((dTexts l).length ≤ 4000) := by unfold Hid; omega
      have HZ : Hid (∀ s ∈ dTexts l, s.size ≤ 1048600) := by
        intro s hs
        unfold dTexts at hs
        rw [List.mem_map] at hs
        obtain ⟨x, hx, rfl⟩ := hs
        rw [bl_size]
        have := defP_len (HG.out x hx).1 (HG.out x hx).2
        omega
      clear HO HO2 hrow hln hb hk
      go_wp2_with fail
      refine (spec_join a' c' (dTexts l) _ HW.out HL.out HZ.out).mono ?_
      rintro e w9 ⟨rfl, rfl⟩
      go_wp2_with fail
      go_ret
      exact ⟨ret_str (joinS_doc l), HQ.out⟩
end Go.Proofs.Ytiehcmdhfeeomaa
