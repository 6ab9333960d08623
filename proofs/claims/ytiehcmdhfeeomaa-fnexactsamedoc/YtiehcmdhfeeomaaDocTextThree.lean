/- The specification's text of a set of selections. -/
import Derived.Test.YtiehcmdhfeeomaaDocTextTwo
namespace Go.Proofs.Ytiehcmdhfeeomaa
open Go.ChangeShapes Go.WideShapes Go.ChangeAt Go.RowKit
set_option linter.unusedVariables false

set_option maxHeartbeats 4000000 in
set_option maxRecDepth 40000 in
theorem text_set (l : Sels) : ∀ (d : Nat), okS d l = true → l.size ≤ 60 → Text_set l := by
  induction hN : l.size using Nat.strongRecOn generalizing l with
  | _ N ih =>
  subst hN
  intro d hok h60 a c w hr
  have IH : Hid (∀ sub : Sels, sub.size < l.size → ∀ d, okS d sub = true → sub.size ≤ 60 → Text_set sub) := fun sub hsub => ih sub.size hsub sub rfl
  have HR : Hid (SelFrom 0 w.heap.size w a 0 l) := hr.from_
  have HO : Hid (okS d l = true) := hok
  have hls := Sels.len_le_size l
  have hln := selsP_len l hok
  clear hr ih hok
  go_enter Try.func39, Try.ntmps39
  go_wp2_with fail
  go_loopw [3, 4] (fun s i w' => ∃ (k : Nat) (rest : Sels) (u : ByteArray), Hid (l.len = k + rest.len) ∧ i = .int .i64 k ∧ s = .string u ∧ Below w.heap.size w w' ∧ Hid (rest.size ≤ l.size) ∧ Hid (okS d rest = true) ∧ Hid (SelFrom 0 w.heap.size w a k rest) ∧ Hid (nl u ++ selsP rest = 123 :: selsP l)) (fun _ i _ => l.len - (intOf i).toNat)
  case atStart => exact ⟨0, l, _, by simp [Hid], rfl, rfl, Below.refl _ _, Nat.le_refl _, HO, HR, rfl⟩
  case round =>
    rename_i wr
    obtain ⟨k, rest, u, HK, rfl, rfl, hb, HZ, HOr, HF, HT⟩ := hrel
    have su : u.size ≤ 60100 := by
      have h1 := congrArg List.length HT.out
      rw [List.length_append, List.length_cons, nl_len] at h1
      omega
    cases rest with
    | nil =>
      have hk' : ¬ k < l.len := by rw [HK.out]; simp only [Sels.len]; omega
      have l1 : (⟨#[32, 125]⟩ : ByteArray).size = 2 := rfl
      have r1 : ¬ (9223372036854775807 < u.size + (⟨#[32, 125]⟩ : ByteArray).size) := by omega
      have r2 : ¬ (9223372036854775807 < u.size + 2) := by omega
      have HN : Hid (u ++ (⟨#[32, 125]⟩ : ByteArray) = bl (123 :: selsP l)) := by
        refine bl_of ?_
        rw [nl_app, ← HT.out]; rfl
      clear l1 su hln
      go_wp2_with fail
      go_ret
      exact ⟨ret_str HN.out, hb⟩
    | cons h sub rest =>
      have hlt : k < l.len := by rw [HK.out]; simp only [Sels.len]; omega
      have HK2 : Hid (l.len = k + 1 + rest.len) := by rw [Hid, HK.out]; simp only [Sels.len]; omega
      obtain ⟨b, o, a1, c1, a2, c2, a3, c3, ha, _, hbl, d0, d1, d2, d3, d4, d5, r1, r2, r3, _⟩ := (HF.out.keep (Below.agree hb (Nat.le_refl _))).step
      have HF2 : Hid (SelFrom 0 w.heap.size w a (k + 1) rest) := SelFrom.next HF.out
      subst ha
      have hbs := hb.size
      have K1 : Hid (ArRow 0 wr.heap.size wr a1 h.args) := Row.wide r1 (Nat.le_refl _) hbs
      have K2 : Hid (DiRow 0 wr.heap.size wr a2 h.dirs) := Row.wide r2 (Nat.le_refl _) hbs
      have K3 : Hid (SelRow 0 wr.heap.size wr a3 sub) := SelRow.wide r3 (Nat.le_refl _) hbs
      have hz := HZ.out
      simp only [Sels.size] at hz
      have hok := HOr.out
      unfold okS at hok
      simp only [Bool.and_eq_true] at hok
      have HO2 : Hid (okS d rest = true) := hok.2
      have HG : Hid (HdGood h) := hd_good hok.1.1.2
      have hsl := selsP_len sub hok.1.2
      have HSL : Hid ((selsP sub).length ≤ 70000) := by unfold Hid; omega
      have HZ2 : Hid (rest.size ≤ l.size) := by unfold Hid; omega
      have IS : Hid (Text_set sub) := IH.out sub (by omega) _ hok.1.2 (by omega)
      have hsp : (selP h sub).length ≤ 62000 := by
        have h1 := congrArg List.length HT.out
        rw [selsP_cons, List.length_append, List.length_cons, List.length_cons, List.length_append] at h1
        omega
      have ls := bl_size (selP h sub)
      have l1 : (⟨#[32]⟩ : ByteArray).size = 1 := rfl
      have n1 : ¬ (9223372036854775807 < (⟨#[32]⟩ : ByteArray).size + (bl (selP h sub)).size) := by omega
      have n2 : ¬ (9223372036854775807 < u.size + ((⟨#[32]⟩ : ByteArray) ++ bl (selP h sub)).size) := by rw [ByteArray.size_append]; omega
      have n3 : ¬ (9223372036854775807 < 1 + (bl (selP h sub)).size) := by omega
      have n4 : ¬ (9223372036854775807 < u.size + (1 + (bl (selP h sub)).size)) := by omega
      have HN : Hid (nl (u ++ ((⟨#[32]⟩ : ByteArray) ++ bl (selP h sub))) ++ selsP rest = 123 :: selsP l) := by
        unfold Hid
        rw [nl_app, nl_app, nl_bl, ← HT.out, selsP_cons]
        simp [nl_lit]
      clear r1 r2 r3 hz hok hsl hsp ls l1 su hln
      go_wp2_with fail
      refine (spec_selText h sub a1 a2 a3 c1 c2 c3 _ K1.out K2.out K3.out HG.out HSL.out IS.out).mono ?_
      rintro e w1 ⟨rfl, hb1⟩
      have q1 : Hid (Below w.heap.size w w1) := hb.trans (hb1.mono hbs)
      clear hb1
      go_wp2_with fail
      go_roundw
      case rel => exact ⟨k + 1, rest, _, HK2, by go_num, rfl, q1.out, HZ2, HO2, HF2, HN⟩
      case measure => simp [intOf]; omega
end Go.Proofs.Ytiehcmdhfeeomaa
