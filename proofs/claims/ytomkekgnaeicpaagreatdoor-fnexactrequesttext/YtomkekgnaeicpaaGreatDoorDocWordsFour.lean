/- The program's text of a selection, of a set. -/
import Derived.Test.YtomkekgnaeicpaaGreatDoorDocWordsThree
namespace Go.Proofs.YtomkekgnaeicpaaGreatDoor
open Go.ChangeShapes Go.WideShapes Go.ChangeAt Go.RowKit
set_option linter.unusedVariables false

def Impl_setT (l : Sels) : Prop := ∀ (a : Option Addr) (c : Nat) (w : World), SelRow 0 w.heap.size w a l → Pow w →
    Calls Tryz.prog 51 #[.slice a l.len c] w fun e w' => e = .returned (.string (bl (123 :: selsP l))) ∧ Below w.heap.size w w'

set_option maxHeartbeats 4000000 in
set_option maxRecDepth 40000 in
theorem impl_selText (h : Hd) (sub : Sels) (a1 a2 a3 : Option Addr) (c1 c2 c3 : Nat) (w : World) (r1 : ArRow 0 w.heap.size w a1 h.args) (r2 : DiRow 0 w.heap.size w a2 h.dirs) (r3 : SelRow 0 w.heap.size w a3 sub) (g : HdGood h) (hs : (selsP sub).length ≤ 70000) (IS : Impl_setT sub) (hp : Pow w) :
    Calls Tryz.prog 70 #[.agg #[.int .i64 h.k, .string h.al, .string h.nm, .slice a1 h.args.length c1, .slice a2 h.dirs.length c2, .slice a3 sub.len c3]] w fun e w' => e = .returned (.string (bl (selP h sub))) ∧ Below w.heap.size w w' := by
  have IT : Hid (Impl_setT sub) := IS
  have HG : Hid (HdGood h) := g
  obtain ⟨W, hW⟩ : ∃ W, W = w.alloc (.cells #[.int .i64 h.k, .string h.al, .string h.nm, .slice a1 h.args.length c1, .slice a2 h.dirs.length c2, .slice a3 sub.len c3] 111) := ⟨_, rfl⟩
  have B0 : Below w.heap.size w W := by rw [hW]; exact (Below.refl _ _).alloc (Nat.le_refl _) _
  have zW : W.heap.size = w.heap.size + 1 := by rw [hW]; simp
  have R1 : Hid (ArRow 0 W.heap.size W a1 h.args) := Row.up r1 B0
  have R2 : Hid (DiRow 0 W.heap.size W a2 h.dirs) := Row.up r2 B0
  have R3 : Hid (SelRow 0 W.heap.size W a3 sub) := SelRow.up r3 B0
  have QB : Hid (Below w.heap.size w W) := B0
  have HP : Hid (∀ W', Below W.heap.size W W' → Pow W') := fun W' hB => (hp.up B0).up hB
  have hx : W.heap[w.heap.size]? = some (.cells #[.int .i64 h.k, .string h.al, .string h.nm, .slice a1 h.args.length c1, .slice a2 h.dirs.length c2, .slice a3 sub.len c3] 111 (0, 0)) := by rw [hW]; exact heap_alloc_new _ _
  have HX : Hid (∀ W', Below W.heap.size W W' → W'.cell? ⟨w.heap.size, 0, none⟩ = some (.int .i64 h.k) ∧ W'.cell? ⟨w.heap.size, 1, none⟩ = some (.string h.al) ∧ W'.cell? ⟨w.heap.size, 2, none⟩ = some (.string h.nm) ∧ W'.cell? ⟨w.heap.size, 3, none⟩ = some (.slice a1 h.args.length c1) ∧ W'.cell? ⟨w.heap.size, 4, none⟩ = some (.slice a2 h.dirs.length c2) ∧ W'.cell? ⟨w.heap.size, 5, none⟩ = some (.slice a3 sub.len c3)) := fun W' hB => by
    have e := (hB.block w.heap.size (by omega)).trans hx
    exact ⟨row_cell e 0, row_cell e 1, row_cell e 2, row_cell e 3, row_cell e 4, row_cell e 5⟩
  have b1 := headP_len g
  have b2 := argsP_len g.arB g.args
  have b3 := dirsP_len g.diB
  have b4 := g.dirs
  have e1 := bl_size (headP h)
  have e2 := bl_size (argsP h.args)
  have e3 := bl_size (dirsP h.dirs)
  have n1 : ¬ (9223372036854775807 < (bl (headP h)).size + (bl (argsP h.args)).size) := by omega
  have n2 : ¬ (9223372036854775807 < (bl (headP h)).size + (bl (argsP h.args)).size + (bl (dirsP h.dirs)).size) := by omega
  have n3 : ¬ (9223372036854775807 < (bl (headP h) ++ bl (argsP h.args)).size + (bl (dirsP h.dirs)).size) := by rw [ByteArray.size_append]; exact n2
  have nb : (bl (headP h)).size + (bl (argsP h.args)).size + (bl (dirsP h.dirs)).size ≤ 1000 := by omega
  clear r1 r2 r3 B0 hx IS g hp b1 b2 b3 b4 e1 e2 e3
  go_enter Tryz.func70, Tryz.ntmps70
  go_wp2_with fail
  rw [← hW]
  clear hW
  refine region_rel (n := 10) (by kernel_rfl) (by kernel_rfl) (by kernel_rfl) (fun u' => ⟨#[.agg #[.int .i64 h.k, .string h.al, .string h.nm, .slice a1 h.args.length c1, .slice a2 h.dirs.length c2, .slice a3 sub.len c3], .pointer (some ⟨w.heap.size, 0, none⟩), .string ⟨#[]⟩, undef, u' 4, u' 5, u' 6, u' 7, u' 8, u' 9, u' 10, u' 11, u' 12, u' 13, undef, undef, undef, undef, undef, undef, undef, undef, undef, undef, undef], []⟩) (fun _ => undef) (fun i => i + 4) (fun i j _ _ h => by omega) (fun i v w2 => match i with | 0 => v = .agg #[.int .i64 h.k, .string h.al, .string h.nm, .slice a1 h.args.length c1, .slice a2 h.dirs.length c2, .slice a3 sub.len c3] | 1 => v = .string (bl (headP h)) | 2 => v = .pointer (some ⟨w.heap.size, 3, none⟩) | 3 => v = .slice a1 h.args.length c1 | 4 => v = .string (bl (argsP h.args)) | 5 => v = .string (bl (headP h) ++ bl (argsP h.args)) | 6 => v = .pointer (some ⟨w.heap.size, 4, none⟩) | 7 => v = .slice a2 h.dirs.length c2 | 8 => v = .string (bl (dirsP h.dirs)) | 9 => v = .string ((bl (headP h) ++ bl (argsP h.args)) ++ bl (dirsP h.dirs)) | _ => True) (fun _ _ => True) ?up trivial ?step ?last
  case up =>
    intro i v w2 w3 hv hbb
    split at hv <;> exact hv
  case step =>
    intro u' w2 i hi hbw _ hdep
    have hcase : i = 0 ∨ i = 1 ∨ i = 2 ∨ i = 3 ∨ i = 4 ∨ i = 5 ∨ i = 6 ∨ i = 7 ∨ i = 8 ∨ i = 9 := by omega
    rcases hcase with rfl | rfl | rfl | rfl | rfl | rfl | rfl | rfl | rfl | rfl
    · obtain ⟨y0, y1, y2, y3, y4, y5⟩ := HX.out _ hbw
      refine wpOp_step rfl (fun K hK => ?_)
      clear hdep
      go_simp
      exact hK _ _ ⟨_, rfl, Below.refl _ _, rfl, trivial⟩
    · have d0 : u' 4 = .agg #[.int .i64 h.k, .string h.al, .string h.nm, .slice a1 h.args.length c1, .slice a2 h.dirs.length c2, .slice a3 sub.len c3] := hdep _ rfl ⟨0, .data⟩ (by simp) rfl
      refine wpOp_step rfl (fun K hK => ?_)
      clear hdep
      go_simp
      refine (impl_headT h a1 a2 a3 h.args.length h.dirs.length sub.len c1 c2 c3 _ HG.out).mono ?_
      rintro e w8 ⟨rfl, hb8⟩
      exact hK _ _ ⟨_, by simp [upd, d0], hb8, rfl, trivial⟩
    · refine wpOp_step rfl (fun K hK => ?_)
      clear hdep
      go_simp
      exact hK _ _ ⟨_, rfl, Below.refl _ _, rfl, trivial⟩
    · have d2 : u' 6 = .pointer (some ⟨w.heap.size, 3, none⟩) := hdep _ rfl ⟨2, .data⟩ (by simp) rfl
      obtain ⟨y0, y1, y2, y3, y4, y5⟩ := HX.out _ hbw
      refine wpOp_step rfl (fun K hK => ?_)
      clear hdep
      go_simp
      exact hK _ _ ⟨_, by simp [upd, d2], Below.refl _ _, rfl, trivial⟩
    · have d3 : u' 7 = .slice a1 h.args.length c1 := hdep _ rfl ⟨3, .data⟩ (by simp) rfl
      refine wpOp_step rfl (fun K hK => ?_)
      clear hdep
      go_simp
      refine (impl_argsT a1 c1 h.args _ (Row.up R1.out hbw) HG.out.args HG.out.arB (HP.out _ hbw)).mono ?_
      rintro e w8 ⟨rfl, hb8⟩
      exact hK _ _ ⟨_, by simp [upd, d3], hb8, rfl, trivial⟩
    · have d1 : u' 5 = .string (bl (headP h)) := hdep _ rfl ⟨1, .data⟩ (by simp) rfl
      have d4 : u' 8 = .string (bl (argsP h.args)) := hdep _ rfl ⟨4, .data⟩ (by simp) rfl
      refine wpOp_step rfl (fun K hK => ?_)
      clear hdep
      go_simp
      exact hK _ _ ⟨_, by simp [upd, d1, d4], Below.refl _ _, rfl, trivial⟩
    · refine wpOp_step rfl (fun K hK => ?_)
      clear hdep
      go_simp
      exact hK _ _ ⟨_, rfl, Below.refl _ _, rfl, trivial⟩
    · have d6 : u' 10 = .pointer (some ⟨w.heap.size, 4, none⟩) := hdep _ rfl ⟨6, .data⟩ (by simp) rfl
      obtain ⟨y0, y1, y2, y3, y4, y5⟩ := HX.out _ hbw
      refine wpOp_step rfl (fun K hK => ?_)
      clear hdep
      go_simp
      exact hK _ _ ⟨_, by simp [upd, d6], Below.refl _ _, rfl, trivial⟩
    · have d7 : u' 11 = .slice a2 h.dirs.length c2 := hdep _ rfl ⟨7, .data⟩ (by simp) rfl
      refine wpOp_step rfl (fun K hK => ?_)
      clear hdep
      go_simp
      refine (impl_dirsT a2 c2 h.dirs _ (Row.up R2.out hbw) HG.out.dirs HG.out.diB (HP.out _ hbw)).mono ?_
      rintro e w8 ⟨rfl, hb8⟩
      exact hK _ _ ⟨_, by simp [upd, d7], hb8, rfl, trivial⟩
    · have d5 : u' 9 = .string (bl (headP h) ++ bl (argsP h.args)) := hdep _ rfl ⟨5, .data⟩ (by simp) rfl
      have d8 : u' 12 = .string (bl (dirsP h.dirs)) := hdep _ rfl ⟨8, .data⟩ (by simp) rfl
      refine wpOp_step rfl (fun K hK => ?_)
      clear hdep
      go_simp
      exact hK _ _ ⟨_, by simp [upd, d5, d8], Below.refl _ _, rfl, trivial⟩
  case last =>
    intro u' w2 hbw _ hp2
    have d9 : u' 13 = .string ((bl (headP h) ++ bl (argsP h.args)) ++ bl (dirsP h.dirs)) := hp2 9 (by omega)
    clear hp2
    obtain ⟨y0, y1, y2, y3, y4, y5⟩ := HX.out _ hbw
    have HB3 : Hid (Below w.heap.size w w2) := QB.out.trans (hbw.mono (by omega))
    have HR3 : Hid (SelRow 0 w2.heap.size w2 a3 sub) := SelRow.up R3.out hbw
    have HP3 : Hid (Pow w2) := HP.out _ hbw
    refine wpOp_step rfl (fun K hK => ?_)
    go_simp
    refine hK _ _ ?_
    clear hK K
    cases sub with
    | nil =>
      have HT : Hid (((bl (headP h) ++ bl (argsP h.args)) ++ bl (dirsP h.dirs)) = bl (selP h .nil)) := by
        refine bl_of ?_
        rw [nl_app, nl_app, nl_bl, nl_bl, nl_bl]; simp [selP, Sels.isNil]
      simp only [Sels.len] at y5
      go_wp2_with fail
      go_ret
      exact ⟨ret_str HT.out, HB3.out⟩
    | cons h1 s1 rest1 =>
      have hn : 0 < (Sels.cons h1 s1 rest1).len := by simp [Sels.len]
      generalize hsub : Sels.cons h1 s1 rest1 = sub at *
      have HNL : Hid (sub.isNil = false) := by unfold Hid; rw [← hsub]; rfl
      have HS : Hid (Sels.cons h1 s1 rest1 = sub) := hsub
      clear hsub
      have ls := bl_size (123 :: selsP sub)
      simp only [List.length_cons] at ls
      have r3 : ¬ (9223372036854775807 < 1 + (bl (123 :: selsP sub)).size) := by omega
      have r1 : ¬ (9223372036854775807 < (⟨#[32]⟩ : ByteArray).size + (bl (123 :: selsP sub)).size) := r3
      have r4 : ¬ (9223372036854775807 < (bl (headP h)).size + (bl (argsP h.args)).size + (bl (dirsP h.dirs)).size + (1 + (bl (123 :: selsP sub)).size)) := by omega
      have r2 : ¬ (9223372036854775807 < ((bl (headP h) ++ bl (argsP h.args)) ++ bl (dirsP h.dirs)).size + ((⟨#[32]⟩ : ByteArray) ++ bl (123 :: selsP sub)).size) := by rw [ByteArray.size_append, ByteArray.size_append, ByteArray.size_append]; exact r4
      have HT : Hid (((bl (headP h) ++ bl (argsP h.args)) ++ bl (dirsP h.dirs)) ++ ((⟨#[32]⟩ : ByteArray) ++ bl (123 :: selsP sub)) = bl (selP h sub)) := by
        refine bl_of ?_
        rw [nl_app, nl_app, nl_app, nl_app, nl_bl, nl_bl, nl_bl, nl_bl]
        unfold selP
        rw [HNL.out]
        simp [nl_lit]
      clear ls
      go_wp2_with fail
      refine (IT.out a3 c3 _ HR3.out HP3.out).mono ?_
      rintro e w9 ⟨rfl, hb9⟩
      have Q9 : Hid (Below w.heap.size w w9) := HB3.out.trans (hb9.mono (by have := HB3.out.size; omega))
      clear hb9
      go_wp2_with fail
      go_ret
      exact ⟨ret_str (by rw [HS.out]; exact HT.out), Q9.out⟩

set_option maxHeartbeats 4000000 in
set_option maxRecDepth 40000 in
theorem impl_setT (l : Sels) : ∀ (d : Nat), okS d l = true → l.size ≤ 60 → Impl_setT l := by
  induction hN : l.size using Nat.strongRecOn generalizing l with
  | _ N ih =>
  subst hN
  intro d hok h60 a c w hr hp
  have IH : Hid (∀ sub : Sels, sub.size < l.size → ∀ d, okS d sub = true → sub.size ≤ 60 → Impl_setT sub) := fun sub hsub => ih sub.size hsub sub rfl
  have HR : Hid (SelFrom 0 w.heap.size w a 0 l) := hr.from_
  have HO : Hid (okS d l = true) := hok
  have HP : Hid (∀ W, Below w.heap.size w W → Pow W) := fun W h => hp.up h
  have hls := Sels.len_le_size l
  have hln := selsP_len l hok
  clear hr ih hok hp
  go_enter Tryz.func51, Tryz.ntmps51
  go_wp2_with fail
  go_loopw [3, 8] (fun s i w' => ∃ (k : Nat) (rest : Sels) (u : ByteArray), Hid (l.len = k + rest.len) ∧ i = .int .i64 k ∧ s = .string u ∧ Below w.heap.size w w' ∧ Hid (rest.size ≤ l.size) ∧ Hid (okS d rest = true) ∧ Hid (SelFrom 0 w.heap.size w a k rest) ∧ Hid (nl u ++ selsP rest = 123 :: selsP l)) (fun _ i _ => l.len - (intOf i).toNat)
  case atStart => exact ⟨0, l, _, by simp [Hid], rfl, rfl, Below.refl _ _, Nat.le_refl _, HO, HR, rfl⟩
  case round =>
    rename_i wr
    obtain ⟨k, rest, u, HK, rfl, rfl, hb, HZ, HOr, HF, HT⟩ := hrel
    have su : u.size ≤ 60100 := by
      have h1 := congrArg List.length HT.out
      rw [List.length_append, List.length_cons, nl_len] at h1
      omega
    cases rest with
    | nil =>
      have hk' : ¬ k < l.len := by rw [HK.out]; simp only [Sels.len]; omega
      have r2 : ¬ (9223372036854775807 < u.size + 2) := by omega
      have r1 : ¬ (9223372036854775807 < u.size + (⟨#[32, 125]⟩ : ByteArray).size) := r2
      have HN : Hid (u ++ (⟨#[32, 125]⟩ : ByteArray) = bl (123 :: selsP l)) := by
        refine bl_of ?_
        rw [nl_app, ← HT.out]; rfl
      clear su hln
      go_wp2_with fail
      go_ret
      exact ⟨ret_str HN.out, hb⟩
    | cons h sub rest =>
      have hlt : k < l.len := by rw [HK.out]; simp only [Sels.len]; omega
      have HK2 : Hid (l.len = k + 1 + rest.len) := by rw [Hid, HK.out]; simp only [Sels.len]; omega
      obtain ⟨b, o, a1, c1, a2, c2, a3, c3, ha, _, hbl, d0, d1, d2, d3, d4, d5, r1, r2, r3, _⟩ := (HF.out.keep (Below.agree hb (Nat.le_refl _))).step
      have HF2 : Hid (SelFrom 0 w.heap.size w a (k + 1) rest) := SelFrom.next HF.out
      subst ha
      have hbs := hb.size
      have K3 : Hid (∀ W0, Below wr.heap.size wr W0 → ArRow 0 W0.heap.size W0 a1 h.args ∧ DiRow 0 W0.heap.size W0 a2 h.dirs ∧ SelRow 0 W0.heap.size W0 a3 sub) := fun W0 hB => ⟨Row.up (Row.wide r1 (Nat.le_refl _) hbs) hB, Row.up (Row.wide r2 (Nat.le_refl _) hbs) hB, SelRow.up (SelRow.wide r3 (Nat.le_refl _) hbs) hB⟩
      have hz := HZ.out
      simp only [Sels.size] at hz
      have hok := HOr.out
      unfold okS at hok
      simp only [Bool.and_eq_true] at hok
      have HO2 : Hid (okS d rest = true) := hok.2
      have HG : Hid (HdGood h) := hd_good hok.1.1.2
      have hsl := selsP_len sub hok.1.2
      have HSL : Hid ((selsP sub).length ≤ 70000) := by unfold Hid; omega
      have HZ2 : Hid (rest.size ≤ l.size) := by unfold Hid; omega
      have IS : Hid (Impl_setT sub) := IH.out sub (by omega) _ hok.1.2 (by omega)
      have hsp : (selP h sub).length ≤ 62000 := by
        have h1 := congrArg List.length HT.out
        rw [selsP_cons, List.length_append, List.length_cons, List.length_cons, List.length_append] at h1
        omega
      have ls := bl_size (selP h sub)
      have n3 : ¬ (9223372036854775807 < 1 + (bl (selP h sub)).size) := by omega
      have n4 : ¬ (9223372036854775807 < u.size + (1 + (bl (selP h sub)).size)) := by omega
      have n1 : ¬ (9223372036854775807 < (⟨#[32]⟩ : ByteArray).size + (bl (selP h sub)).size) := n3
      have n2 : ¬ (9223372036854775807 < u.size + ((⟨#[32]⟩ : ByteArray) ++ bl (selP h sub)).size) := by rw [ByteArray.size_append]; exact n4
      have HN : Hid (nl (u ++ ((⟨#[32]⟩ : ByteArray) ++ bl (selP h sub))) ++ selsP rest = 123 :: selsP l) := by
        unfold Hid
        rw [nl_app, nl_app, nl_bl, ← HT.out, selsP_cons]
        simp [nl_lit]
      clear r1 r2 r3 hz hok hsl hsp ls su hln
      go_wp2_with fail
      refine (impl_selText h sub a1 a2 a3 c1 c2 c3 _ (K3.out _ ?b0).1 (K3.out _ ?b0).2.1 (K3.out _ ?b0).2.2 HG.out HSL.out IS.out (HP.out _ ?b1)).mono ?_
      case b0 => exact (Below.refl _ _).alloc (Nat.le_refl _) _
      case b1 => exact hb.trans ((Below.refl _ _).alloc hbs _)
      rintro e w1 ⟨rfl, hb1⟩
      have q1 : Hid (Below w.heap.size w w1) := hb.trans (((Below.refl _ _).alloc hbs _).trans (hb1.mono (by simp; omega)))
      clear hb1
      go_wp2_with fail
      go_roundw
      case rel => exact ⟨k + 1, rest, _, HK2, by go_num, rfl, q1.out, HZ2, HO2, HF2, HN⟩
      case measure => simp [intOf]; omega
end Go.Proofs.YtomkekgnaeicpaaGreatDoor
