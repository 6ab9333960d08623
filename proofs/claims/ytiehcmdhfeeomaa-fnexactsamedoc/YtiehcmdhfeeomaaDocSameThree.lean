/- The program's holding of sets, of definitions, of documents against each other. -/
import Derived.Test.YtiehcmdhfeeomaaDocSameTwo
namespace Go.Proofs.Ytiehcmdhfeeomaa
open Go.ChangeShapes Go.WideShapes Go.ChangeAt Go.RowKit
set_option linter.unusedVariables false

def Same_fun (l l' : Sels) : Prop := ∀ (a a' : Option Addr) (c c' : Nat) (w : World), SelRow 0 w.heap.size w a l → SelRow 0 w.heap.size w a' l' →
    Calls Try.prog 82 #[.slice a l.len c, .slice a' l'.len c', .func (.func 83) #[] #[]] w fun e w' => Says (l = l') e ∧ Below w.heap.size w w'
theorem set_of_fun {l l' : Sels} (h : Same_fun l l') : Same_set l l' := by
  intro a a' c c' w hr hr'
  have HF : Hid (Same_fun l l') := h
  have HR : Hid (SelRow 0 w.heap.size w a l ∧ SelRow 0 w.heap.size w a' l') := ⟨hr, hr'⟩
  clear h hr hr'
  go_enter Try.func63, Try.ntmps63
  go_wp2_with fail
  refine (HF.out a a' c c' _ HR.out.1 HR.out.2).mono ?_
  rintro e w1 ⟨⟨bb, rfl, ⟨rfl, hf⟩ | ⟨rfl, hf⟩⟩, hb1⟩
  · have HN : Hid (l = l') := hf
    have Q1 : Hid (Below w.heap.size w w1) := hb1
    clear hb1 hf
    go_wp2_with fail
    go_ret
    exact ⟨Says.yes HN.out, Q1.out⟩
  · have HN : Hid (¬ l = l') := hf
    have Q1 : Hid (Below w.heap.size w w1) := hb1
    clear hb1 hf
    go_wp2_with fail
    go_ret
    exact ⟨Says.no HN.out, Q1.out⟩

set_option maxHeartbeats 4000000 in
set_option maxRecDepth 40000 in
theorem same_fun (l : Sels) : ∀ (l' : Sels) (d d' : Nat), okS d l = true → okS d' l' = true → l.size ≤ 60 → l'.size ≤ 60 → Same_fun l l' := by
  induction hN : l.size using Nat.strongRecOn generalizing l with
  | _ N ih =>
  subst hN
  intro l' d d' hok hok' h60 h60' a a' c c' w hr hr'
  have IH : Hid (∀ sub : Sels, sub.size < l.size → ∀ (sub' : Sels) (d d' : Nat), okS d sub = true → okS d' sub' = true → sub.size ≤ 60 → sub'.size ≤ 60 → Same_fun sub sub') := fun sub hsub => ih sub.size hsub sub rfl
  have HR : Hid (SelFrom 0 w.heap.size w a 0 l) := hr.from_
  have HR' : Hid (SelFrom 0 w.heap.size w a' 0 l') := hr'.from_
  have HO : Hid (okS d l = true) := hok
  have HO' : Hid (okS d' l' = true) := hok'
  have hls := Sels.len_le_size l
  have hls' := Sels.len_le_size l'
  clear hr hr' ih hok hok'
  by_cases hll : l.len = l'.len
  case neg =>
    have HN : Hid (¬ l = l') := fun h => hll (congrArg _ h)
    have h1 : ((l.len : Int) == (l'.len : Int)) = false := by rw [beq_eq_false_iff_ne]; omega
    have h2 : ((l.len : Int) != (l'.len : Int)) = true := by rw [bne, h1]; rfl
    go_enter Try.func82, Try.ntmps82
    go_wp2_with fail
    go_ret
    exact ⟨Says.no HN.out, Below.refl _ _⟩
  have HLL : Hid (l.len = l'.len) := hll
  clear hll
  rw [← HLL.out]
  go_enter Try.func82, Try.ntmps82
  go_wp2_with fail
  go_loopw [17] (fun i w' => ∃ (k : Nat) (rest rest' : Sels), Hid (l.len = k + rest.len) ∧ Hid (l'.len = k + rest'.len) ∧ i = .int .i64 k ∧ Below w.heap.size w w' ∧ Hid (rest.size ≤ l.size ∧ rest'.size ≤ l'.size) ∧ Hid (okS d rest = true ∧ okS d' rest' = true) ∧ Hid (SelFrom 0 w.heap.size w a k rest) ∧ Hid (SelFrom 0 w.heap.size w a' k rest') ∧ Hid (l = l' ↔ rest = rest')) (fun i _ => l.len - (intOf i).toNat)
  case atStart => exact ⟨0, l, l', by simp [Hid], by simp [Hid], rfl, Below.refl _ _, ⟨Nat.le_refl _, Nat.le_refl _⟩, ⟨HO.out, HO'.out⟩, HR, HR', Iff.rfl⟩
  case round =>
    rename_i wr
    obtain ⟨w0, rfl⟩ : ∃ x, x = wr := ⟨_, rfl⟩
    obtain ⟨k, rest, rest', HK, HK', rfl, hb, HZ, HOr, HF, HF', HE⟩ := hrel
    cases rest with
    | nil =>
      have hk' : ¬ k < l.len := by rw [HK.out]; simp only [Sels.len]; omega
      have HN : Hid (l = l') := by
        refine HE.out.2 ?_
        have h1 := HK.out
        have h2 := HK'.out
        have h3 := HLL.out
        simp only [Sels.len] at h1
        cases rest' with
        | nil => rfl
        | cons h sub r => simp only [Sels.len] at h2; omega
      go_wp2_with fail
      go_ret
      exact ⟨Says.yes HN.out, hb⟩
    | cons h sub rest =>
      have hlt : k < l.len := by rw [HK.out]; simp only [Sels.len]; omega
      have hlt3 : (k : Int) < l.len := by omega
      cases rest' with
      | nil =>
        exfalso
        have h1 := HK.out
        have h2 := HK'.out
        have h3 := HLL.out
        simp only [Sels.len] at h1 h2
        omega
      | cons h' sub' rest' =>
        have HK2 : Hid (l.len = k + 1 + rest.len) := by rw [Hid, HK.out]; simp only [Sels.len]; omega
        have HK2' : Hid (l'.len = k + 1 + rest'.len) := by rw [Hid, HK'.out]; simp only [Sels.len]; omega
        obtain ⟨b, o, a1, c1, a2, c2, a3, c3, ha, _, hbl, d0, d1, d2, d3, d4, d5, r1, r2, r3, _⟩ := (HF.out.keep (Below.agree hb (Nat.le_refl _))).step
        obtain ⟨b', o', b1, e1, b2, e2, b3, e3, ha', _, hbl', f0, f1, f2, f3, f4, f5, s1, s2, s3, _⟩ := (HF'.out.keep (Below.agree hb (Nat.le_refl _))).step
        have HF2 : Hid (SelFrom 0 w.heap.size w a (k + 1) rest) := SelFrom.next HF.out
        have HF2' : Hid (SelFrom 0 w.heap.size w a' (k + 1) rest') := SelFrom.next HF'.out
        subst ha
        subst ha'
        have hbz := hb.size
        have hb0 : b < w0.heap.size := by omega
        have hb0' : b' < w0.heap.size := by omega
        have hz := HZ.out
        simp only [Sels.size] at hz
        have hok := HOr.out
        unfold okS at hok
        simp only [Bool.and_eq_true] at hok
        have HO2 : Hid (okS d rest = true ∧ okS d' rest' = true) := ⟨hok.1.2, hok.2.2⟩
        have HG : Hid (HdGood h ∧ HdGood h') := ⟨hd_good hok.1.1.1.2, hd_good hok.2.1.1.2⟩
        have HZ2 : Hid (rest.size ≤ l.size ∧ rest'.size ≤ l'.size) := ⟨by omega, by omega⟩
        have IS : Hid (Same_set sub sub') := set_of_fun (IH.out sub (by omega) sub' _ _ hok.1.1.2 hok.2.1.2 (by omega) (by omega))
        have K3 : Hid (∀ W0, Below w0.heap.size w0 W0 → (ArRow 0 W0.heap.size W0 a1 h.args ∧ ArRow 0 W0.heap.size W0 b1 h'.args) ∧ (DiRow 0 W0.heap.size W0 a2 h.dirs ∧ DiRow 0 W0.heap.size W0 b2 h'.dirs) ∧ SelRow 0 W0.heap.size W0 a3 sub ∧ SelRow 0 W0.heap.size W0 b3 sub') := fun W0 hB =>
          ⟨⟨Row.up (Row.wide r1 (Nat.le_refl _) hbz) hB, Row.up (Row.wide s1 (Nat.le_refl _) hbz) hB⟩, ⟨Row.up (Row.wide r2 (Nat.le_refl _) hbz) hB, Row.up (Row.wide s2 (Nat.le_refl _) hbz) hB⟩, SelRow.up (SelRow.wide r3 (Nat.le_refl _) hbz) hB, SelRow.up (SelRow.wide s3 (Nat.le_refl _) hbz) hB⟩
        have HEE : Hid (l = l' ↔ (h = h' ∧ sub = sub') ∧ rest = rest') := by
          unfold Hid
          rw [HE.out]
          simp only [Sels.cons.injEq, and_assoc]
        clear r1 r2 r3 s1 s2 s3 hok hz
        go_wp2_with fail
        refine Calls.mono (same_sel h h' sub sub' a1 a2 a3 b1 b2 b3 c1 c2 c3 e1 e2 e3 _ (K3.out _ ?b0).1.1 (K3.out _ ?b0).2.1.1 (K3.out _ ?b0).2.2.1 (K3.out _ ?b0).1.2 (K3.out _ ?b0).2.1.2 (K3.out _ ?b0).2.2.2 HG.out.1 HG.out.2 IS.out) ?_
        case b0 => repeat (first | exact Below.refl _ _ | refine Below.setCell ?_ (by first | omega | (simp <;> omega)) _ | refine Below.alloc ?_ (by first | omega | (simp <;> omega)) _)
        rintro e w1 ⟨⟨bb, rfl, ⟨rfl, hf⟩ | ⟨rfl, hf⟩⟩, hb1⟩
        · have q1 : Hid (Below w.heap.size w w1) := by
            refine hb.trans (Below.trans ?_ (hb1.mono (by first | omega | (simp <;> omega))))
            repeat (first | exact Below.refl _ _ | refine Below.setCell ?_ (by first | omega | (simp <;> omega)) _ | refine Below.alloc ?_ (by first | omega | (simp <;> omega)) _)
          have HN : Hid (l = l' ↔ rest = rest') := by
            unfold Hid
            rw [HEE.out]
            exact ⟨fun x => x.2, fun x => ⟨hf, x⟩⟩
          clear hb1 hf
          go_wp2_with fail
          go_roundw
          case rel => exact ⟨k + 1, rest, rest', HK2, HK2', by go_num, q1.out, HZ2, HO2, HF2, HF2', HN⟩
          case measure => simp [intOf]; omega
        · have q1 : Hid (Below w.heap.size w w1) := by
            refine hb.trans (Below.trans ?_ (hb1.mono (by first | omega | (simp <;> omega))))
            repeat (first | exact Below.refl _ _ | refine Below.setCell ?_ (by first | omega | (simp <;> omega)) _ | refine Below.alloc ?_ (by first | omega | (simp <;> omega)) _)
          have HN : Hid (¬ l = l') := fun hh => hf (HEE.out.1 hh).1
          clear hb1 hf
          go_wp2_with fail
          go_ret
          exact ⟨Says.no HN.out, q1.out⟩
end Go.Proofs.Ytiehcmdhfeeomaa
