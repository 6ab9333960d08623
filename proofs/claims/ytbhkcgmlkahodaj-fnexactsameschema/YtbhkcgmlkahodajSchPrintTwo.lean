/- The specification's text of a schema: its loops. -/
import Derived.Test.YtbhkcgmlkahodajSchPrint
namespace Go.Proofs.Ytbhkcgmlkahodaj.G
open Go.ChangeShapes Go.WideShapes Go.ChangeAt Go.RowKit
set_option linter.unusedVariables false

theorem wT_len {x : Td} (hn : nameB x.nm = true) (h : ∀ f ∈ x.fs, GoodF f ∧ f.args.length ≤ 4) (hl : x.fs.length ≤ 10) : (wT x).size ≤ 1048600 := by
  have := P2_len (m := x.fs.length) hn h hl
  rw [sz_nl, ← P2_done, List.length_append]
  simp only [List.length_cons, List.length_nil]
  omega
def wds (l : List Td) (k : Nat) : List Value := ((l.take k).map wT).map Value.string
theorem words_take {l : List Td} {k : Nat} (hk : k < l.length) : wds l k ++ [.string (wT l[k])] = wds l (k + 1) := by
  unfold wds
  rw [List.take_succ_eq_append_getElem hk]; simp only [List.map_append, List.map_cons, List.map_nil]
set_option maxHeartbeats 40000000 in
set_option maxRecDepth 40000 in
theorem spec_print (a : Option Addr) (c : Nat) (l : List Td) (w : World) (hr : TdRow 0 w.heap.size w a l) (hb : TdsBd 1048576 l) (hok : SchOK l) :
    Calls Try.prog 48 #[.agg #[.slice a l.length c]] w fun e w' => ∃ t, e = .returned (.string t) ∧ 32 :: nl t = J (tdsT l) ∧ Below w.heap.size w w' := by
  have B0 : Hid (Below w.heap.size w (w.alloc (.cells #[.slice a l.length c] 30))) := (Below.refl _ _).alloc (Nat.le_refl _) _
  have HR : Hid (TdRow 0 w.heap.size w a l) := hr
  have HX : Hid (∀ x ∈ l, TdBd 1048576 x) := hb.2
  have HOK : Hid (SchOK l) := hok
  have hl8 : l.length ≤ 8 := hok.2.1
  have hl1 : 1 ≤ l.length := hok.1
  clear hr hb hok
  go_enter Try.func48, Try.ntmps48
  go_wp2_with fail
  go_loopw [3, 4] (fun v i w' => ∃ (k : Nat), k ≤ l.length ∧ i = .int .i64 k ∧ Below (w.heap.size + 1) (w.alloc (.cells #[.slice a l.length c] 30)) w' ∧ Hid (w'.ownsRow (w.heap.size + 1) 9 1 v k (wds l k))) (fun _ i _ => l.length - (intOf i).toNat)
  case atStart =>
    refine ⟨0, by omega, rfl, (Below.refl _ _).alloc (by simp) _, ?_⟩
    have := World.ownsRow_made (base := w.heap.size + 1) (e := 9) (size := 1) (w.alloc (.cells #[.slice a l.length c] 30)) #[] 0 (by simp) (Nat.zero_le _) rfl
    rw [show (w.alloc (.cells #[.slice a l.length c] 30)).heap.size = w.heap.size + 1 by simp] at this
    exact this
  case round =>
    obtain ⟨wo, rfl⟩ : ∃ x, x = wr := ⟨_, rfl⟩
    obtain ⟨k, hk, rfl, hb, HO⟩ := hrel
    have k0 : wo.cell? ⟨w.heap.size, 0, none⟩ = some (.slice a l.length c) := (hb.cell (p := ⟨w.heap.size, 0, none⟩) (show w.heap.size < w.heap.size + 1 by omega)).trans (row_cell (heap_alloc_new _ _) 0)
    have hz := size_one hb
    have hzz : w.heap.size < wo.heap.size := by omega
    have Q0 : Hid (Below w.heap.size w wo) := B0.out.trans (hb.mono (by omega))
    have HB : Hid _ := hb
    by_cases hlt : k < l.length
    case neg =>
      have e : k = l.length := by omega
      subst e
      have HN : Hid (32 :: nl (joinS (l.map wT)) = J (tdsT l)) := by
        have := join_words l l.length (by omega) (Nat.le_refl _)
        rw [List.take_length] at this
        unfold joinS; rw [List.length_map]; exact this
      have HO1 := HO.out
      unfold wds at HO1
      rw [List.take_length] at HO1
      have HL : Hid ((l.map wT).length ≤ 4000) := by rw [Hid, List.length_map]; omega
      have HZ : Hid (∀ s ∈ l.map wT, s.size ≤ 1048600) := by
        intro s hs
        obtain ⟨x, hx, rfl⟩ := List.mem_map.1 hs
        exact wT_len (HOK.out.good x hx).1 (Fd4 HOK.out hx) (HOK.out.2.2.2.2.2 x hx).2.1
      clear HO
      generalize l.map wT = ss at *
      obtain ⟨a', c', hv, hrow⟩ := own_strs HO1
      subst hv
      have HW : Hid (StrRow wo a' ss) := hrow
      clear HO1 hrow hb
      go_wp2_with fail
      refine (spec_join a' c' ss _ HW.out HL.out HZ.out).mono ?_
      rintro e w2 ⟨rfl, rfl⟩
      go_wp2_with fail
      go_ret
      exact ⟨_, rfl, HN.out, Q0.out⟩
    obtain ⟨b, o, a5, c5, ha, _, hbl, d0, d1, r3⟩ := TdRow.cells (TdRow.keep HR.out (agree Q0.out (Nat.le_refl _))) k hlt
    subst ha
    have hbo : b < wo.heap.size := by omega
    have hmem : l[k] ∈ l := List.getElem_mem hlt
    have GX : Hid (nameB l[k].nm = true) := (HOK.out.good _ hmem).1
    have F4 : Hid (∀ f ∈ l[k].fs, GoodF f ∧ f.args.length ≤ 4) := Fd4 HOK.out hmem
    have hf10 : l[k].fs.length ≤ 10 := (HOK.out.2.2.2.2.2 _ hmem).2.1
    have K3 : Hid (FdRow 0 wo.heap.size wo a5 l[k].fs) := FdRow.wide r3 (Nat.le_refl _) (by omega)
    have zn : l[k].nm.size ≤ 40 := by rw [sz_nl]; exact name_len GX.out
    have l1 : (⟨#[116, 121, 112, 101, 32]⟩ : ByteArray).size = 5 := rfl
    have l2 : (⟨#[32, 123]⟩ : ByteArray).size = 2 := rfl
    have n1 : ¬ (9223372036854775807 < (⟨#[116, 121, 112, 101, 32]⟩ : ByteArray).size + l[k].nm.size) := by omega
    have n2 : ¬ (9223372036854775807 < ((⟨#[116, 121, 112, 101, 32]⟩ : ByteArray) ++ l[k].nm).size + (⟨#[32, 123]⟩ : ByteArray).size) := by rw [ByteArray.size_append]; omega
    have HN0 : Hid (nl (((⟨#[116, 121, 112, 101, 32]⟩ : ByteArray) ++ l[k].nm) ++ ⟨#[32, 123]⟩) = P2 l[k] 0) := by rw [Hid, P2_zero, nl_app, nl_app]; rfl
    clear l1 l2 r3 zn hb
    go_wp2_with fail
    have K0 : Hid _ := k0
    have D0 : Hid _ := d0
    have D1 : Hid _ := d1
    clear n1 n2 k0 d0 d1
    go_loopw [5, 6] (fun s i w' => ∃ (m : Nat) (t : ByteArray), m ≤ l[k].fs.length ∧ i = .int .i64 m ∧ s = .string t ∧ Hid (nl t = P2 l[k] m) ∧ Below wo.heap.size wo w') (fun _ i _ => l[k].fs.length - (intOf i).toNat)
    case atStart => exact ⟨0, _, by omega, rfl, rfl, HN0, Below.refl _ _⟩
    case round =>
      obtain ⟨wr2, rfl⟩ : ∃ x, x = wr := ⟨_, rfl⟩
      obtain ⟨m, t, hm, rfl, rfl, HT, hb2⟩ := hrel
      have zt : t.size ≤ 4100 := by rw [sz_nl, HT.out]; exact P2_len GX.out F4.out hf10
      have hz2 := hb2.size
      have zz3 : w.heap.size < wr2.heap.size := by omega
      have s0 : wr2.cell? ⟨w.heap.size, 0, none⟩ = some (.slice (some ⟨b, o, none⟩) l.length c) := (hb2.cell (p := ⟨w.heap.size, 0, none⟩) hzz).trans K0.out
      have s1 : wr2.cell? ⟨b, o + k * 2, none⟩ = some (.string l[k].nm) := (hb2.cell (p := ⟨b, o + k * 2, none⟩) hbo).trans D0.out
      have s2 : wr2.cell? ⟨b, o + k * 2 + 1, none⟩ = some (.slice a5 l[k].fs.length c5) := (hb2.cell (p := ⟨b, o + k * 2 + 1, none⟩) hbo).trans D1.out
      have HB2 : Hid _ := hb2
      by_cases hlm : m < l[k].fs.length
      case neg =>
        have e : m = l[k].fs.length := by omega
        have HN : Hid (t ++ ⟨#[32, 125]⟩ = wT l[k]) := by
          apply nl_inj
          rw [nl_app, HT.out, e]; exact P2_done l[k]
        have l3 : (⟨#[32, 125]⟩ : ByteArray).size = 2 := rfl
        have n3 : ¬ (9223372036854775807 < t.size + (⟨#[32, 125]⟩ : ByteArray).size) := by omega
        obtain ⟨i9, hi9, hz9, hs9, hy9⟩ := info_parts info9
        have HO3 : (wr2.alloc (.cells #[.string (t ++ ⟨#[32, 125]⟩)] 9)).ownsRow (w.heap.size + 1) 9 1 _ k _ := (own_below HO.out hb2).alloc _
        have HO4 : Hid _ := HO3
        have HQ : Hid (Below (w.heap.size + 1) (w.alloc (.cells #[.slice (some ⟨b, o, none⟩) l.length c] 30)) wr2) := HB.out.trans (hb2.mono (by omega))
        clear HO3 l3 hb2
        go_wp2_with (at_builtin; refine wpList_append_own _ rfl _ _ 75 rfl (w.heap.size + 1) 9 i9 _ 1 16 Try.underlying75 hi9 hz9 hs9 hy9 rfl (by decide) _ k _ rfl HO4.out ⟨wr2.heap.size, 0, none⟩ 1 1 [.string (t ++ ⟨#[32, 125]⟩)] rfl rfl ?c1 ?c2 ?c3 ?c4 ?c5 ?_)
        case c1 =>
          intro j u hu
          cases j with
          | zero => simp at hu; subst hu; simp [Addr.add]
          | succ j => simp at hu
        case c2 => intro u hu; simp at hu; subst hu; rfl
        case c3 => unfold maxLen; omega
        case c4 => omega
        case c5 => simp; omega
        intro v' w3 hown hgrow _
        have q3 : Hid (Below (w.heap.size + 1) (w.alloc (.cells #[.slice (some ⟨b, o, none⟩) l.length c] 30)) w3) := (HQ.out.alloc (by omega) _).grown hgrow (by simp; omega) (fun g hg => (World.ownsRow.lt HO4.out g hg).1)
        rw [HN.out, words_take hlt] at hown
        have HW : Hid _ := hown
        clear hown hgrow
        go_wp2_with fail
        go_roundw
        case rel => exact ⟨k + 1, by omega, by go_num, q3.out, HW⟩
        case measure => simp [intOf]; omega
      obtain ⟨b5, o5, a6, c6, ha5, _, hbl5, f0, f1, f2, f3, f4, r5⟩ := FdRow.cells (FdRow.keep K3.out (agree hb2 (Nat.le_refl _))) m hlm
      subst ha5
      have hb5 : b5 < wr2.heap.size := by omega
      have hfm : l[k].fs[m] ∈ l[k].fs := List.getElem_mem hlm
      have GF : Hid (GoodF l[k].fs[m]) := (F4.out _ hfm).1
      have ha4 : l[k].fs[m].args.length ≤ 4 := (F4.out _ hfm).2
      have K5 : Hid (AgRow 0 wr2.heap.size wr2 a6 l[k].fs[m].args) := AgRow.wide r5 (Nat.le_refl _) hz2
      have zf : l[k].fs[m].nm.size ≤ 40 := by rw [sz_nl]; exact name_len GF.out.1
      have l3 : (⟨#[32]⟩ : ByteArray).size = 1 := rfl
      have n3 : ¬ (9223372036854775807 < (⟨#[32]⟩ : ByteArray).size + l[k].fs[m].nm.size) := by omega
      have n4 : ¬ (9223372036854775807 < t.size + ((⟨#[32]⟩ : ByteArray) ++ l[k].fs[m].nm).size) := by rw [ByteArray.size_append]; omega
      have HN1 : Hid (nl (t ++ ((⟨#[32]⟩ : ByteArray) ++ l[k].fs[m].nm)) = P3 l[k] m l[k].fs[m] 0) := by rw [Hid, P3_zero, nl_app, nl_app, HT.out]; rfl
      clear l3 r5 zf hb2
      go_wp2_with fail
      clear n3 n4 s0 s1 s2 f0 f1 f2 f3 f4
      go_loopw [5, 8] (fun s i w' => ∃ (n : Nat) (u : ByteArray), n ≤ l[k].fs[m].args.length ∧ i = .int .i64 n ∧ s = .string u ∧ Hid (nl u = P3 l[k] m l[k].fs[m] n) ∧ Below (wr2.heap.size + 1) (wr2.alloc (.cells #[.string l[k].fs[m].nm, .slice a6 l[k].fs[m].args.length c6, .string l[k].fs[m].ty, .bool l[k].fs[m].ls, .bool l[k].fs[m].bg] 36)) w') (fun _ i _ => l[k].fs[m].args.length - (intOf i).toNat)
      case atStart => exact ⟨0, _, by omega, rfl, rfl, HN1, Below.refl _ _⟩
      case round =>
        obtain ⟨wr3, rfl⟩ : ∃ x, x = wr := ⟨_, rfl⟩
        obtain ⟨n, u, hn, rfl, rfl, HU, hb4⟩ := hrel
        have zu : u.size ≤ 4600 := by rw [sz_nl, HU.out]; exact P3_len GX.out F4.out hf10 GF.out ha4
        have hz4 := size_one hb4
        have zz4 : wr2.heap.size < wr3.heap.size := by omega
        have P4 : Hid (Below wr2.heap.size wr2 wr3) := ((Below.refl _ _).alloc (Nat.le_refl _) _).trans (hb4.mono (by simp))
        have q0 : wr3.cell? ⟨wr2.heap.size, 0, none⟩ = some (.string l[k].fs[m].nm) := (hb4.cell (p := ⟨wr2.heap.size, 0, none⟩) (show wr2.heap.size < wr2.heap.size + 1 by omega)).trans (row_cell (heap_alloc_new _ _) 0)
        have q1 : wr3.cell? ⟨wr2.heap.size, 1, none⟩ = some (.slice a6 l[k].fs[m].args.length c6) := (hb4.cell (p := ⟨wr2.heap.size, 1, none⟩) (show wr2.heap.size < wr2.heap.size + 1 by omega)).trans (row_cell (heap_alloc_new _ _) 1)
        have q2 : wr3.cell? ⟨wr2.heap.size, 2, none⟩ = some (.string l[k].fs[m].ty) := (hb4.cell (p := ⟨wr2.heap.size, 2, none⟩) (show wr2.heap.size < wr2.heap.size + 1 by omega)).trans (row_cell (heap_alloc_new _ _) 2)
        have q3 : wr3.cell? ⟨wr2.heap.size, 3, none⟩ = some (.bool l[k].fs[m].ls) := (hb4.cell (p := ⟨wr2.heap.size, 3, none⟩) (show wr2.heap.size < wr2.heap.size + 1 by omega)).trans (row_cell (heap_alloc_new _ _) 3)
        have q4 : wr3.cell? ⟨wr2.heap.size, 4, none⟩ = some (.bool l[k].fs[m].bg) := (hb4.cell (p := ⟨wr2.heap.size, 4, none⟩) (show wr2.heap.size < wr2.heap.size + 1 by omega)).trans (row_cell (heap_alloc_new _ _) 4)
        have HB4 : Hid _ := hb4
        clear hb4
        by_cases hln : n < l[k].fs[m].args.length
        case neg =>
          have e : n = l[k].fs[m].args.length := by omega
          have HU2 : Hid (nl u = P3 l[k] m l[k].fs[m] l[k].fs[m].args.length) := by rw [Hid, HU.out, e]
          clear HU
          by_cases h0p : 0 < l[k].fs[m].args.length
          case neg =>
            have H0 : Hid (l[k].fs[m].args.length = 0) := by unfold Hid; omega
            clear e hn hln
            go_wp2_with fail
            refine (spec_type l[k].fs[m] a6 c6 _ GF.out.2.1).mono ?_
            rintro e w5 ⟨T, rfl, hT, hb5'⟩
            have zT : T.size ≤ 60 := by have := tyT_len GF.out.2.1; rw [← hT] at this; rw [sz_nl]; simp at this; omega
            have l4 : (⟨#[32, 58, 32]⟩ : ByteArray).size = 3 := rfl
            have n5 : ¬ (9223372036854775807 < (⟨#[32, 58, 32]⟩ : ByteArray).size + T.size) := by omega
            have n6 : ¬ (9223372036854775807 < u.size + ((⟨#[32, 58, 32]⟩ : ByteArray) ++ T).size) := by rw [ByteArray.size_append]; omega
            have HN : Hid (nl (u ++ ((⟨#[32, 58, 32]⟩ : ByteArray) ++ T)) = P2 l[k] (m + 1)) := by
              rw [Hid, P3_done hlm hT, if_pos H0.out, nl_app, nl_app, HU2.out]; simp [nl]
            have HW : Hid (Below wo.heap.size wo w5) := HB2.out.trans ((P4.out.trans (hb5'.mono (by omega))).mono (by omega))
            clear hb5' zT l4
            go_wp2_with fail
            go_roundw
            case rel => exact ⟨m + 1, _, by omega, by go_num, rfl, HN, HW.out⟩
            case measure => simp [intOf]; omega
          case pos =>
            have h0 : ¬ l[k].fs[m].args.length = 0 := by omega
            have H0 : Hid _ := h0
            clear h0
            have l5 : (⟨#[32, 41]⟩ : ByteArray).size = 2 := rfl
            have n4 : ¬ (9223372036854775807 < u.size + (⟨#[32, 41]⟩ : ByteArray).size) := by omega
            go_wp2_with fail
            refine (spec_type l[k].fs[m] a6 c6 _ GF.out.2.1).mono ?_
            rintro e w5 ⟨T, rfl, hT, hb5'⟩
            have zT : T.size ≤ 60 := by have := tyT_len GF.out.2.1; rw [← hT] at this; rw [sz_nl]; simp at this; omega
            have l4 : (⟨#[32, 58, 32]⟩ : ByteArray).size = 3 := rfl
            have n5 : ¬ (9223372036854775807 < (⟨#[32, 58, 32]⟩ : ByteArray).size + T.size) := by omega
            have n6 : ¬ (9223372036854775807 < (u ++ ⟨#[32, 41]⟩).size + ((⟨#[32, 58, 32]⟩ : ByteArray) ++ T).size) := by rw [ByteArray.size_append, ByteArray.size_append]; omega
            have HN : Hid (nl ((u ++ ⟨#[32, 41]⟩) ++ ((⟨#[32, 58, 32]⟩ : ByteArray) ++ T)) = P2 l[k] (m + 1)) := by
              rw [Hid, P3_done hlm hT, if_neg H0.out, nl_app, nl_app, nl_app, HU2.out]; simp [nl]
            have HW : Hid (Below wo.heap.size wo w5) := HB2.out.trans ((P4.out.trans (hb5'.mono (by omega))).mono (by omega))
            clear hb5' zT l4 l5
            go_wp2_with fail
            go_roundw
            case rel => exact ⟨m + 1, _, by omega, by go_num, rfl, HN, HW.out⟩
            case measure => simp [intOf]; omega
        obtain ⟨b7, o7, ha7, _, hbl7, g0, g1⟩ := AgRow.cells (AgRow.keep K5.out (agree P4.out (Nat.le_refl _))) n hln
        subst ha7
        have hb7 : b7 < wr3.heap.size := by omega
        have hln3 : (n : Int) < l[k].fs[m].args.length := by omega
        have zg : l[k].fs[m].args[n].nm.size ≤ 40 := by rw [sz_nl]; exact name_len (GF.out.2.2 _ (List.getElem_mem hln))
        by_cases h0 : n = 0
        · subst h0
          simp only [Nat.zero_mul, Nat.add_zero] at g0 g1
          cases hnd : l[k].fs[m].args[0].need
          · rw [hnd] at g1
            have l1 : (⟨#[32, 40, 32]⟩ : ByteArray).size ≤ 3 := by decide
            have l2 : (⟨#[32, 58, 32, 73, 110, 116]⟩ : ByteArray).size = 6 := rfl
            have n5 : ¬ (9223372036854775807 < (⟨#[32, 40, 32]⟩ : ByteArray).size + l[k].fs[m].args[0].nm.size) := by omega
            have n6 : ¬ (9223372036854775807 < ((⟨#[32, 40, 32]⟩ : ByteArray) ++ l[k].fs[m].args[0].nm).size + (⟨#[32, 58, 32, 73, 110, 116]⟩ : ByteArray).size) := by rw [ByteArray.size_append]; omega
            have n7 : ¬ (9223372036854775807 < u.size + (((⟨#[32, 40, 32]⟩ : ByteArray) ++ l[k].fs[m].args[0].nm) ++ ⟨#[32, 58, 32, 73, 110, 116]⟩).size) := by rw [ByteArray.size_append, ByteArray.size_append]; omega
            have m6 : ¬ (9223372036854775807 < (⟨#[32, 40, 32]⟩ : ByteArray).size + l[k].fs[m].args[0].nm.size + (⟨#[32, 58, 32, 73, 110, 116]⟩ : ByteArray).size) := by omega
            have m7 : ¬ (9223372036854775807 < u.size + ((⟨#[32, 40, 32]⟩ : ByteArray).size + l[k].fs[m].args[0].nm.size + (⟨#[32, 58, 32, 73, 110, 116]⟩ : ByteArray).size)) := by omega
            have HN : Hid (nl (u ++ ((((⟨#[32, 40, 32]⟩ : ByteArray) ++ l[k].fs[m].args[0].nm)) ++ ⟨#[32, 58, 32, 73, 110, 116]⟩)) = P3 l[k] m l[k].fs[m] 1) := by
              rw [Hid, P3_first (x := l[k]) (m := m) (f := l[k].fs[m]) hln, hnd, nl_app, nl_app, nl_app, HU.out]
              simp [nl, tkB, J]
            clear l1 l2 zu zg
            go_wp2_with fail
            go_region_with (go_at_call 68; refine (spec_bit _ _).mono ?_; rintro e w9 ⟨rfl, rfl⟩)
            all_goals
              go_wp2_with fail
              go_roundw
              case rel => exact ⟨0 + 1, _, by omega, by first | rfl | go_num, rfl, HN, by first | exact (HB4.out.drew).alloc (by first | omega | (simp <;> omega)) _ | exact (HB4.out.alloc (by first | omega | (simp <;> omega)) _).drew⟩
              case measure => simp [intOf]; omega
          · rw [hnd] at g1
            have l1 : (⟨#[32, 40, 32]⟩ : ByteArray).size ≤ 3 := by decide
            have l2 : (⟨#[32, 58, 32, 73, 110, 116]⟩ : ByteArray).size = 6 := rfl
            have n5 : ¬ (9223372036854775807 < (⟨#[32, 40, 32]⟩ : ByteArray).size + l[k].fs[m].args[0].nm.size) := by omega
            have n6 : ¬ (9223372036854775807 < ((⟨#[32, 40, 32]⟩ : ByteArray) ++ l[k].fs[m].args[0].nm).size + (⟨#[32, 58, 32, 73, 110, 116]⟩ : ByteArray).size) := by rw [ByteArray.size_append]; omega
            have n7 : ¬ (9223372036854775807 < u.size + (((⟨#[32, 40, 32]⟩ : ByteArray) ++ l[k].fs[m].args[0].nm) ++ ⟨#[32, 58, 32, 73, 110, 116]⟩).size) := by rw [ByteArray.size_append, ByteArray.size_append]; omega
            have m6 : ¬ (9223372036854775807 < (⟨#[32, 40, 32]⟩ : ByteArray).size + l[k].fs[m].args[0].nm.size + (⟨#[32, 58, 32, 73, 110, 116]⟩ : ByteArray).size) := by omega
            have m7 : ¬ (9223372036854775807 < u.size + ((⟨#[32, 40, 32]⟩ : ByteArray).size + l[k].fs[m].args[0].nm.size + (⟨#[32, 58, 32, 73, 110, 116]⟩ : ByteArray).size)) := by omega
            have l3 : (⟨#[32, 33]⟩ : ByteArray).size = 2 := rfl
            have n8 : ¬ (9223372036854775807 < (u ++ ((((⟨#[32, 40, 32]⟩ : ByteArray) ++ l[k].fs[m].args[0].nm)) ++ ⟨#[32, 58, 32, 73, 110, 116]⟩)).size + (⟨#[32, 33]⟩ : ByteArray).size) := by rw [ByteArray.size_append, ByteArray.size_append, ByteArray.size_append]; omega
            have m8 : ¬ (9223372036854775807 < u.size + ((⟨#[32, 40, 32]⟩ : ByteArray).size + l[k].fs[m].args[0].nm.size + (⟨#[32, 58, 32, 73, 110, 116]⟩ : ByteArray).size) + (⟨#[32, 33]⟩ : ByteArray).size) := by omega
            have HN : Hid (nl ((u ++ ((((⟨#[32, 40, 32]⟩ : ByteArray) ++ l[k].fs[m].args[0].nm)) ++ ⟨#[32, 58, 32, 73, 110, 116]⟩)) ++ ⟨#[32, 33]⟩) = P3 l[k] m l[k].fs[m] 1) := by
              rw [Hid, P3_first (x := l[k]) (m := m) (f := l[k].fs[m]) hln, hnd, nl_app, nl_app, nl_app, nl_app, HU.out]
              simp [nl, tkB, J]
            clear l1 l2 l3 zu zg
            go_wp2_with fail
            go_region_with (go_at_call 68; refine (spec_bit _ _).mono ?_; rintro e w9 ⟨rfl, rfl⟩)
            all_goals
              go_wp2_with fail
              go_roundw
              case rel => exact ⟨0 + 1, _, by omega, by first | rfl | go_num, rfl, HN, by first | exact (HB4.out.drew).alloc (by first | omega | (simp <;> omega)) _ | exact (HB4.out.alloc (by first | omega | (simp <;> omega)) _).drew⟩
              case measure => simp [intOf]; omega
        · have h0p : 0 < n := by omega
          cases hnd : l[k].fs[m].args[n].need
          · rw [hnd] at g1
            have l1 : (⟨#[32]⟩ : ByteArray).size ≤ 3 := by decide
            have l2 : (⟨#[32, 58, 32, 73, 110, 116]⟩ : ByteArray).size = 6 := rfl
            have n5 : ¬ (9223372036854775807 < (⟨#[32]⟩ : ByteArray).size + l[k].fs[m].args[n].nm.size) := by omega
            have n6 : ¬ (9223372036854775807 < ((⟨#[32]⟩ : ByteArray) ++ l[k].fs[m].args[n].nm).size + (⟨#[32, 58, 32, 73, 110, 116]⟩ : ByteArray).size) := by rw [ByteArray.size_append]; omega
            have n7 : ¬ (9223372036854775807 < u.size + (((⟨#[32]⟩ : ByteArray) ++ l[k].fs[m].args[n].nm) ++ ⟨#[32, 58, 32, 73, 110, 116]⟩).size) := by rw [ByteArray.size_append, ByteArray.size_append]; omega
            have m6 : ¬ (9223372036854775807 < (⟨#[32]⟩ : ByteArray).size + l[k].fs[m].args[n].nm.size + (⟨#[32, 58, 32, 73, 110, 116]⟩ : ByteArray).size) := by omega
            have m7 : ¬ (9223372036854775807 < u.size + ((⟨#[32]⟩ : ByteArray).size + l[k].fs[m].args[n].nm.size + (⟨#[32, 58, 32, 73, 110, 116]⟩ : ByteArray).size)) := by omega
            have HN : Hid (nl (u ++ ((((⟨#[32]⟩ : ByteArray) ++ l[k].fs[m].args[n].nm)) ++ ⟨#[32, 58, 32, 73, 110, 116]⟩)) = P3 l[k] m l[k].fs[m] (n + 1)) := by
              rw [Hid, P3_next (x := l[k]) (m := m) (f := l[k].fs[m]) hln h0p, hnd, nl_app, nl_app, nl_app, HU.out]
              simp [nl, tkB, J]
            clear l1 l2 zu zg
            go_wp2_with fail
            go_region_with (go_at_call 68; refine (spec_bit _ _).mono ?_; rintro e w9 ⟨rfl, rfl⟩)
            all_goals
              go_wp2_with fail
              go_roundw
              case rel => exact ⟨n + 1, _, by omega, by first | rfl | go_num, rfl, HN, by first | exact (HB4.out.drew).alloc (by first | omega | (simp <;> omega)) _ | exact (HB4.out.alloc (by first | omega | (simp <;> omega)) _).drew⟩
              case measure => simp [intOf]; omega
          · rw [hnd] at g1
            have l1 : (⟨#[32]⟩ : ByteArray).size ≤ 3 := by decide
            have l2 : (⟨#[32, 58, 32, 73, 110, 116]⟩ : ByteArray).size = 6 := rfl
            have n5 : ¬ (9223372036854775807 < (⟨#[32]⟩ : ByteArray).size + l[k].fs[m].args[n].nm.size) := by omega
            have n6 : ¬ (9223372036854775807 < ((⟨#[32]⟩ : ByteArray) ++ l[k].fs[m].args[n].nm).size + (⟨#[32, 58, 32, 73, 110, 116]⟩ : ByteArray).size) := by rw [ByteArray.size_append]; omega
            have n7 : ¬ (9223372036854775807 < u.size + (((⟨#[32]⟩ : ByteArray) ++ l[k].fs[m].args[n].nm) ++ ⟨#[32, 58, 32, 73, 110, 116]⟩).size) := by rw [ByteArray.size_append, ByteArray.size_append]; omega
            have m6 : ¬ (9223372036854775807 < (⟨#[32]⟩ : ByteArray).size + l[k].fs[m].args[n].nm.size + (⟨#[32, 58, 32, 73, 110, 116]⟩ : ByteArray).size) := by omega
            have m7 : ¬ (9223372036854775807 < u.size + ((⟨#[32]⟩ : ByteArray).size + l[k].fs[m].args[n].nm.size + (⟨#[32, 58, 32, 73, 110, 116]⟩ : ByteArray).size)) := by omega
            have l3 : (⟨#[32, 33]⟩ : ByteArray).size = 2 := rfl
            have n8 : ¬ (9223372036854775807 < (u ++ ((((⟨#[32]⟩ : ByteArray) ++ l[k].fs[m].args[n].nm)) ++ ⟨#[32, 58, 32, 73, 110, 116]⟩)).size + (⟨#[32, 33]⟩ : ByteArray).size) := by rw [ByteArray.size_append, ByteArray.size_append, ByteArray.size_append]; omega
            have m8 : ¬ (9223372036854775807 < u.size + ((⟨#[32]⟩ : ByteArray).size + l[k].fs[m].args[n].nm.size + (⟨#[32, 58, 32, 73, 110, 116]⟩ : ByteArray).size) + (⟨#[32, 33]⟩ : ByteArray).size) := by omega
            have HN : Hid (nl ((u ++ ((((⟨#[32]⟩ : ByteArray) ++ l[k].fs[m].args[n].nm)) ++ ⟨#[32, 58, 32, 73, 110, 116]⟩)) ++ ⟨#[32, 33]⟩) = P3 l[k] m l[k].fs[m] (n + 1)) := by
              rw [Hid, P3_next (x := l[k]) (m := m) (f := l[k].fs[m]) hln h0p, hnd, nl_app, nl_app, nl_app, nl_app, HU.out]
              simp [nl, tkB, J]
            clear l1 l2 l3 zu zg
            go_wp2_with fail
            go_region_with (go_at_call 68; refine (spec_bit _ _).mono ?_; rintro e w9 ⟨rfl, rfl⟩)
            all_goals
              go_wp2_with fail
              go_roundw
              case rel => exact ⟨n + 1, _, by omega, by first | rfl | go_num, rfl, HN, by first | exact (HB4.out.drew).alloc (by first | omega | (simp <;> omega)) _ | exact (HB4.out.alloc (by first | omega | (simp <;> omega)) _).drew⟩
              case measure => simp [intOf]; omega
end Go.Proofs.Ytbhkcgmlkahodaj.G
