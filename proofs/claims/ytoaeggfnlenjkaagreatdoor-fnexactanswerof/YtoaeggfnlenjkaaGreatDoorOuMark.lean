/- The law's marks written into answers' values that the call owns. -/
import Derived.Test.YtoaeggfnlenjkaaGreatDoorLexMathD
import Derived.Test.YtoaeggfnlenjkaaGreatDoorOuTextBoth
import Derived.Test.YtoaeggfnlenjkaaGreatDoorOuSpec
import Derived.Test.YtoaeggfnlenjkaaGreatDoorOuDraw
import Derived.Deep.RegionWith
import Derived.Test.YtoaeggfnlenjkaaGreatDoorOuOwnMath
import Derived.Test.YtoaeggfnlenjkaaGreatDoorOuOwn
namespace Go.Proofs.YtoaeggfnlenjkaaGreatDoor.G
open Go.ChangeShapes Go.WideShapes Go.ChangeAt Go.RowKit
set_option linter.unusedVariables false

def SaysO (e : Ending) (p : Prop) : Prop := ∃ b : Bool, e = .returned (.bool b) ∧ (b = true ↔ p)
theorem SaysO.yes {p : Prop} (h : p) : SaysO (.returned (.bool true)) p := ⟨true, rfl, ⟨fun _ => h, fun _ => rfl⟩⟩
theorem SaysO.no {p : Prop} (h : ¬ p) : SaysO (.returned (.bool false)) p := ⟨false, rfl, ⟨fun e => (by cases e), fun e => absurd e h⟩⟩
theorem bytes_of {a b : ByteArray} (h : (a.toList == b.toList) = true) : a = b := by
  rw [beq_iff_eq, ByteArray.toList_eq, ByteArray.toList_eq] at h
  exact nl_inj h
theorem bytes_no {a b : ByteArray} (h : (a.toList == b.toList) = false) : a ≠ b := by
  rintro rfl; simp at h
theorem lists_of {l l' : List ByteArray} (hl : l.length = l'.length) (h : ∀ j (h1 : j < l.length) (h2 : j < l'.length), l[j] = l'[j]) : l = l' :=
  List.ext_getElem hl fun j h1 h2 => h j h1 h2
set_option maxHeartbeats 2000000 in
theorem impl_eqKeys (a a' : Option Addr) (c c' : Nat) (l l' : List ByteArray) (w : World) (hr : KeRow 0 w.heap.size w a l) (hr' : KeRow 0 w.heap.size w a' l') (hl : l.length ≤ 1048576) (hl' : l'.length ≤ 1048576) :
    Calls Tryz.prog 93 #[.slice a l.length c, .slice a' l'.length c'] w fun e w' => SaysO e (l = l') ∧ Below w.heap.size w w' := by
  have HR : Hid _ := hr
  have HR' : Hid _ := hr'
  clear hr hr'
  by_cases hn : l.length = l'.length
  case neg =>
    have hq : ((l.length : Int) != l'.length) = true := by simp; omega
    have HF : Hid (SaysO (.returned (.bool false)) (l = l')) := SaysO.no fun e => hn (by rw [e])
    clear hn
    go_enter Tryz.func93, Tryz.ntmps93
    go_wp2_with fail
    go_ret
    exact ⟨HF.out, Below.refl _ _⟩
  have hq : ((l.length : Int) != l'.length) = false := by simp [hn]
  have HN : Hid _ := hn
  clear hn
  go_enter Tryz.func93, Tryz.ntmps93
  go_wp2_with fail
  clear hq
  go_loopw [13] (fun i w' => ∃ (k : Nat), k ≤ l.length ∧ i = .int .i64 k ∧ Hid (Below w.heap.size w w') ∧ Hid (∀ j (h1 : j < l.length) (h2 : j < l'.length), j < k → l[j] = l'[j])) (fun i _ => l.length - (intOf i).toNat)
  case atStart => exact ⟨0, by omega, rfl, Below.refl _ _, fun j _ _ h => by omega⟩
  case round =>
    obtain ⟨wo, rfl⟩ : ∃ x, x = wr := ⟨_, rfl⟩
    obtain ⟨k, hk, rfl, HB, HA⟩ := hrel
    by_cases hlt : k < l.length
    case neg =>
      have HF : Hid (SaysO (.returned (.bool true)) (l = l')) := SaysO.yes (lists_of HN.out fun j h1 h2 => HA.out j h1 h2 (by omega))
      go_wp2_with fail
      go_ret
      exact ⟨HF.out, HB.out⟩
    have hlt' : k < l'.length := by rw [← HN.out]; exact hlt
    obtain ⟨b, o, ha, _, hbl, d0⟩ := KeRow.cells (KeRow.up HR.out HB.out) k hlt
    obtain ⟨b', o', ha', _, hbl', d0'⟩ := KeRow.cells (KeRow.up HR'.out HB.out) k hlt'
    subst ha ha'
    have hk1 : (k : Int) < l.length := by omega
    have hk2 : (k : Int) < l'.length := by omega
    cases he : (l[k].toList == l'[k].toList)
    · have he' : (l[k].toList != l'[k].toList) = true := by simp only [bne, he]; rfl
      have HF : Hid (SaysO (.returned (.bool false)) (l = l')) := SaysO.no fun e => bytes_no he (by subst e; rfl)
      go_wp2_with fail
      go_quiet (fail)
      go_wp2_with fail
      go_ret
      exact ⟨HF.out, belowN HB.out _⟩
    · have he' : (l[k].toList != l'[k].toList) = false := by simp only [bne, he]; rfl
      have HA2 : Hid (∀ j (h1 : j < l.length) (h2 : j < l'.length), j < k + 1 → l[j] = l'[j]) := fun j h1 h2 h3 => by
        by_cases e : j = k
        · subst e; exact bytes_of he
        · exact HA.out j h1 h2 (by omega)
      go_wp2_with fail
      go_quiet (fail)
      go_wp2_with fail
      exact ⟨⟨k + 1, by omega, by first | rfl | go_num, belowN HB.out _, HA2⟩, by simp [intOf]; omega⟩
def SameL (l : Ous) : Prop := ∀ (l' : Ous) (a a' : Option Addr) (c c' : Nat) (w : World), OuRow 0 w.heap.size w a l → OuRow 0 w.heap.size w a' l' → l.len ≤ 1048576 → l'.len ≤ 1048576 → OusBd 1048576 l → OusBd 1048576 l' →
    Calls Tryz.prog 94 #[.slice a l.len c, .slice a' l'.len c', .func (.func 52) #[] #[]] w fun e w' => SaysO e (l = l') ∧ Below w.heap.size w w'
theorem oh_ext {h h' : Oh} (h1 : h.k = h'.k) (h2 : h.n = h'.n) (h3 : h.t = h'.t) (h4 : h.keys = h'.keys) : h = h' := by
  cases h; cases h'; simp only at h1 h2 h3 h4; rw [h1, h2, h3, h4]
set_option maxHeartbeats 8000000 in
set_option maxRecDepth 40000 in
theorem impl_sameOne (h h' : Oh) (sub sub' : Ous) (ih : SameL sub) (a1 a2 a1' a2' : Option Addr) (c1 c2 c1' c2' : Nat) (w : World) (r1 : KeRow 0 w.heap.size w a1 h.keys) (r2 : OuRow 0 w.heap.size w a2 sub) (r3 : KeRow 0 w.heap.size w a1' h'.keys) (r4 : OuRow 0 w.heap.size w a2' sub')
    (hx : OhBd 1048576 h ∧ sub.len ≤ 1048576 ∧ OusBd 1048576 sub) (hy : OhBd 1048576 h' ∧ sub'.len ≤ 1048576 ∧ OusBd 1048576 sub') :
    Calls Tryz.prog 52 #[.agg #[.int .i64 h.k, .int .i64 h.n, .string h.t, .slice a1 h.keys.length c1, .slice a2 sub.len c2], .agg #[.int .i64 h'.k, .int .i64 h'.n, .string h'.t, .slice a1' h'.keys.length c1', .slice a2' sub'.len c2']] w fun e w' => SaysO e (h = h' ∧ sub = sub') ∧ Below w.heap.size w w' := by
  obtain ⟨V, hV⟩ : ∃ V, V = ((w.alloc (.cells #[.int .i64 h.k, .int .i64 h.n, .string h.t, .slice a1 h.keys.length c1, .slice a2 sub.len c2] 26)).alloc (.cells #[.int .i64 h'.k, .int .i64 h'.n, .string h'.t, .slice a1' h'.keys.length c1', .slice a2' sub'.len c2'] 26)) := ⟨_, rfl⟩
  have BV : Below w.heap.size w V := by
    rw [hV]
    repeat (first | exact Below.refl _ _ | refine Below.alloc ?_ (by first | omega | (simp <;> omega)) _)
  have e1 : V.heap[w.heap.size + 1]? = some (.cells #[.int .i64 h'.k, .int .i64 h'.n, .string h'.t, .slice a1' h'.keys.length c1', .slice a2' sub'.len c2'] 26 (0, 0)) := by
    rw [hV]
    have := heap_alloc_new (w.alloc (.cells #[.int .i64 h.k, .int .i64 h.n, .string h.t, .slice a1 h.keys.length c1, .slice a2 sub.len c2] 26)) (.cells #[.int .i64 h'.k, .int .i64 h'.n, .string h'.t, .slice a1' h'.keys.length c1', .slice a2' sub'.len c2'] 26 (0, 0))
    simpa using this
  have e0 : V.heap[w.heap.size]? = some (.cells #[.int .i64 h.k, .int .i64 h.n, .string h.t, .slice a1 h.keys.length c1, .slice a2 sub.len c2] 26 (0, 0)) := by
    rw [hV]
    refine (Below.heap_alloc _ _ _ (by simp)).trans ?_
    exact heap_alloc_new _ _
  have x0 := fun o => row_cell e0 o
  have x1 := fun o => row_cell e1 o
  have KV : Hid (∀ W, Below V.heap.size V W → (KeRow 0 W.heap.size W a1 h.keys ∧ OuRow 0 W.heap.size W a2 sub) ∧ (KeRow 0 W.heap.size W a1' h'.keys ∧ OuRow 0 W.heap.size W a2' sub') ∧ Below w.heap.size w W ∧ W.heap[w.heap.size]? = V.heap[w.heap.size]? ∧ W.heap[w.heap.size + 1]? = V.heap[w.heap.size + 1]?) := fun W hW =>
    have hb := BV.trans (hW.mono BV.size)
    ⟨⟨KeRow.up r1 hb, OuRow.up r2 hb⟩, ⟨KeRow.up r3 hb, OuRow.up r4 hb⟩, hb, hW.block _ (Array.getElem?_eq_some_iff.1 e0).1, hW.block _ (Array.getElem?_eq_some_iff.1 e1).1⟩
  have HV0 : Hid _ := e0
  have HV1 : Hid _ := e1
  have HX : Hid _ := hx
  have HY : Hid _ := hy
  have IH : Hid _ := ih
  have HBV : Hid _ := BV
  clear e0 e1 r1 r2 r3 r4 hx hy ih BV
  go_enter Tryz.func52, Tryz.ntmps52
  go_upto_region 1 with fail
  rw [← hV]
  clear hV
  cases hk : (h.k == h'.k)
  · have HF : Hid (SaysO (.returned (.bool false)) (h = h' ∧ sub = sub')) := SaysO.no fun e => by rw [e.1] at hk; simp at hk
    go_wp2_with fail
    go_ret
    exact ⟨HF.out, HBV.out⟩
  cases hn : (h.n == h'.n)
  · have HF : Hid (SaysO (.returned (.bool false)) (h = h' ∧ sub = sub')) := SaysO.no fun e => by rw [e.1] at hn; simp at hn
    go_wp2_with fail
    go_ret
    exact ⟨HF.out, HBV.out⟩
  cases ht : (h.t.toList == h'.t.toList)
  · have HF : Hid (SaysO (.returned (.bool false)) (h = h' ∧ sub = sub')) := SaysO.no fun e => by rw [e.1] at ht; simp at ht
    go_wp2_with fail
    go_ret
    exact ⟨HF.out, HBV.out⟩
  go_wp2_with fail
  refine (impl_eqKeys a1 a1' c1 c1' h.keys h'.keys _ (KV.out _ (Below.refl _ _)).1.1 (KV.out _ (Below.refl _ _)).2.1.1 HX.out.1.2.1 HY.out.1.2.1).mono ?_
  rintro e w1 ⟨⟨b, rfl, hbb⟩, hb1⟩
  have HB1 : Hid _ := hb1
  have HBB : Hid _ := hbb
  have y0 := fun o => row_cell ((KV.out _ hb1).2.2.2.1.trans HV0.out) o
  have y1 := fun o => row_cell ((KV.out _ hb1).2.2.2.2.trans HV1.out) o
  have HBW : Hid (Below w.heap.size w w1) := (KV.out _ hb1).2.2.1
  clear hb1 hbb x0 x1
  cases b
  · have HF : Hid (SaysO (.returned (.bool false)) (h = h' ∧ sub = sub')) := SaysO.no fun e => by
      have := HBB.out.2 (by rw [e.1]); cases this
    go_wp2_with fail
    go_ret
    exact ⟨HF.out, HBW.out⟩
  have HHE : Hid (h = h') := oh_ext (by simpa using hk) (by simpa using hn) (bytes_of ht) (HBB.out.1 rfl)
  clear hk hn ht HBB
  go_wp2_with fail
  refine (IH.out sub' a2 a2' c2 c2' w1 (KV.out _ HB1.out).1.2 (KV.out _ HB1.out).2.1.2 HX.out.2.1 HY.out.2.1 HX.out.2.2 HY.out.2.2).mono ?_
  rintro e w2 ⟨⟨b, rfl, hbb⟩, hb2⟩
  have HF : Hid (SaysO (.returned (.bool b)) (h = h' ∧ sub = sub')) := ⟨b, rfl, ⟨fun e => ⟨HHE.out, hbb.1 e⟩, fun e => hbb.2 e.2⟩⟩
  have HB2 : Hid (Below w.heap.size w w2) := HBW.out.trans (hb2.mono HBW.out.size)
  clear hbb hb2
  go_wp2_with fail
  go_ret
  exact ⟨HF.out, HB2.out⟩
end Go.Proofs.YtoaeggfnlenjkaaGreatDoor.G
namespace Go.Proofs.YtoaeggfnlenjkaaGreatDoor.G
open Go.ChangeShapes Go.WideShapes Go.ChangeAt Go.RowKit
set_option linter.unusedVariables false

theorem out_is (h : Oh) (sub : Ous) (a1 a2 : Option Addr) (c1 c2 : Nat) (w : World) (b : Bool) (r1 : KeRow 0 w.heap.size w a1 h.keys) (hc : h.keys.length ≤ c1) (r2 : OuRow 0 w.heap.size w a2 sub) (hb : OhBd 1048576 h) (hl : sub.len ≤ 1048576) (hs : OusBd 1048576 sub) (hq : outB 20 h sub = b) :
    Calls Tryz.prog 36 #[.agg #[.int .i64 h.k, .int .i64 h.n, .string h.t, .slice a1 h.keys.length c1, .slice a2 sub.len c2]] w fun e w' => e = .returned (.bool b) ∧ Below w.heap.size w w' := by
  subst hq
  exact spec_outOK h sub a1 a2 c1 c2 w r1 hc r2 hb hl hs
/-- Both are right, and of one text. -/
def sameO (h : Oh) (sub : Ous) (h' : Oh) (sub' : Ous) : Bool := outB 20 h sub && outB 20 h' sub' && ((outT h sub).toList == (outT h' sub').toList)
end Go.Proofs.YtoaeggfnlenjkaaGreatDoor.G
namespace Go.Proofs.YtoaeggfnlenjkaaGreatDoor.G
open Go.ChangeShapes Go.WideShapes Go.ChangeAt Go.RowKit
set_option linter.unusedVariables false

/-- A list without its first k. -/
def dropO : Nat → Ous → Ous
  | 0, l => l
  | _ + 1, .nil => .nil
  | k + 1, .cons _ _ r => dropO k r
theorem cons_inj {h h' : Oh} {s s' r r' : Ous} : Ous.cons h s r = Ous.cons h' s' r' ↔ (h = h' ∧ s = s') ∧ r = r' := by
  constructor
  · intro e; cases e; exact ⟨⟨rfl, rfl⟩, rfl⟩
  · rintro ⟨⟨rfl, rfl⟩, rfl⟩; rfl
set_option maxHeartbeats 8000000 in
set_option maxRecDepth 40000 in
theorem impl_sameL (l : Ous) : SameL l := by
  induction hN : l.size using Nat.strongRecOn generalizing l with
  | _ N ih =>
  subst hN
  intro l' a a' c c' w r1 r2 hl hl' hs hs'
  have IH : Hid (∀ s : Ous, s.size < l.size → SameL s) := fun s hlt => ih s.size hlt s rfl
  have HR : Hid (OuFrom 0 w.heap.size w a 0 l) := r1.from_
  have HR' : Hid (OuFrom 0 w.heap.size w a' 0 l') := r2.from_
  have HS : Hid _ := hs
  have HS' : Hid _ := hs'
  clear r1 r2 hs hs' ih
  by_cases hn : l.len = l'.len
  case neg =>
    have hq : ((l.len : Int) != l'.len) = true := by simp; omega
    have HF : Hid (SaysO (.returned (.bool false)) (l = l')) := SaysO.no fun e => hn (by rw [e])
    clear hn
    go_enter Tryz.func94, Tryz.ntmps94
    go_wp2_with fail
    go_ret
    exact ⟨HF.out, Below.refl _ _⟩
  have hq : ((l.len : Int) != l'.len) = false := by simp [hn]
  have HN : Hid (l.len = l'.len) := hn
  clear hn
  go_enter Tryz.func94, Tryz.ntmps94
  go_wp2_with fail
  clear hq
  go_loopw [17] (fun i w' => ∃ (k : Nat) (q q' : Ous), k + q.len = l.len ∧ k + q'.len = l'.len ∧ i = .int .i64 k ∧ Hid (Below w.heap.size w w') ∧ Hid (q.size ≤ l.size) ∧ Hid (OuFrom 0 w.heap.size w a k q) ∧ Hid (OuFrom 0 w.heap.size w a' k q') ∧ Hid (OusBd 1048576 q) ∧ Hid (OusBd 1048576 q') ∧ Hid (l = l' ↔ q = q')) (fun i _ => l.len - (intOf i).toNat)
  case atStart => exact ⟨0, l, l', by omega, by omega, rfl, Below.refl _ _, Nat.le_refl _, HR, HR', HS, HS', Iff.rfl⟩
  case round =>
    obtain ⟨wo, rfl⟩ : ∃ x, x = wr := ⟨_, rfl⟩
    obtain ⟨k, q, q', hk, hk', rfl, HB, HZ, HF, HF', HD, HD', HE⟩ := hrel
    have hzo := HB.out.size
    cases q with
    | nil =>
      have hq' : q' = .nil := Ous.nil_of (by have := HN.out; simp only [Ous.len] at hk; omega)
      have HFIN : Hid (SaysO (.returned (.bool true)) (l = l')) := SaysO.yes (HE.out.2 hq'.symm)
      have hnl : ¬ (k : Int) < l.len := by simp only [Ous.len] at hk; omega
      clear hk hk' hq'
      go_wp2_with fail
      go_ret
      exact ⟨HFIN.out, HB.out⟩
    | cons h sub rest =>
      cases q' with
      | nil => exfalso; have := HN.out; simp only [Ous.len] at hk hk'; omega
      | cons h' sub' rest' =>
        have hlt : (k : Int) < l.len := by simp only [Ous.len] at hk; omega
        have hlt' : (k : Int) < l'.len := by simp only [Ous.len] at hk'; omega
        obtain ⟨b, o, a1, c1, a2, c2, ha, _, hbl, d0, d1, d2, d3, d4, hc, p1, p2, _⟩ := OuFrom.step (OuFrom.keep HF.out (agree HB.out (Nat.le_refl _)))
        obtain ⟨b', o', a1', c1', a2', c2', ha', _, hbl', d0', d1', d2', d3', d4', hc', p1', p2', _⟩ := OuFrom.step (OuFrom.keep HF'.out (agree HB.out (Nat.le_refl _)))
        have HF2 : Hid (OuFrom 0 w.heap.size w a (k + 1) rest) := by
          obtain ⟨_, _, _, _, _, _, _, _, _, _, _, _, _, _, _, _, _, rf9⟩ := OuFrom.step HF.out
          exact rf9
        have HF2' : Hid (OuFrom 0 w.heap.size w a' (k + 1) rest') := by
          obtain ⟨_, _, _, _, _, _, _, _, _, _, _, _, _, _, _, _, _, rf9⟩ := OuFrom.step HF'.out
          exact rf9
        obtain ⟨g1, g2, g3, g4⟩ := HD.out
        obtain ⟨g1', g2', g3', g4'⟩ := HD'.out
        have HX : Hid (OhBd 1048576 h ∧ sub.len ≤ 1048576 ∧ OusBd 1048576 sub) := ⟨g1, g2, g3⟩
        have HY : Hid (OhBd 1048576 h' ∧ sub'.len ≤ 1048576 ∧ OusBd 1048576 sub') := ⟨g1', g2', g3'⟩
        have E4 : Hid _ := g4
        have E4' : Hid _ := g4'
        have HZ2 : Hid (rest.size ≤ l.size) := by have := HZ.out; simp only [Ous.size] at this; unfold Hid; omega
        have HIS : Hid (SameL sub) := IH.out sub (by have := HZ.out; simp only [Ous.size] at this; omega)
        have R : Hid (∀ W, Below wo.heap.size wo W → (KeRow 0 W.heap.size W a1 h.keys ∧ OuRow 0 W.heap.size W a2 sub) ∧ (KeRow 0 W.heap.size W a1' h'.keys ∧ OuRow 0 W.heap.size W a2' sub')) := fun W hW =>
          ⟨⟨KeRow.up (KeRow.wide p1 (Nat.le_refl _) hzo) hW, OuRow.up (OuRow.wide p2 (Nat.le_refl _) hzo) hW⟩, ⟨KeRow.up (KeRow.wide p1' (Nat.le_refl _) hzo) hW, OuRow.up (OuRow.wide p2' (Nat.le_refl _) hzo) hW⟩⟩
        subst ha ha'
        have q0 := fun ob o => (((Below.refl wo.heap.size wo).alloc (Nat.le_refl _) ob).cell (p := ⟨b', o, none⟩) (show b' < wo.heap.size by omega))
        clear g1 g3 g4 g1' g3' g4' p1 p2 p1' p2' HF HF' HD HD'
        go_wp2_with fail
        have QB : Hid (Below wo.heap.size wo ((wo.alloc (.cells #[.int .i64 h.k, .int .i64 h.n, .string h.t, .slice a1 h.keys.length c1, .slice a2 sub.len c2] 26)).alloc (.cells #[.int .i64 h'.k, .int .i64 h'.n, .string h'.t, .slice a1' h'.keys.length c1', .slice a2' sub'.len c2'] 26))) := by
          repeat (first | exact Below.refl _ _ | refine Below.alloc ?_ (by first | omega | (simp <;> omega)) _)
        refine (impl_sameOne h h' sub sub' HIS.out a1 a2 a1' a2' c1 c2 c1' c2' _ (R.out _ QB.out).1.1 (R.out _ QB.out).1.2 (R.out _ QB.out).2.1 (R.out _ QB.out).2.2 HX.out HY.out).mono ?_
        rintro e w1 ⟨⟨bb, rfl, hbb⟩, hb1⟩
        have HB1 : Hid (Below w.heap.size w w1) := HB.out.trans ((QB.out.trans (hb1.mono QB.out.size)).mono hzo)
        have HBB : Hid _ := hbb
        clear hb1 hbb d0 d1 d2 d3 d4 d0' d1' d2' d3' d4' q0
        cases bb
        · have HFIN : Hid (SaysO (.returned (.bool false)) (l = l')) := SaysO.no fun e => by
            have := HBB.out.2 (cons_inj.1 (HE.out.1 e)).1
            cases this
          go_wp2_with fail
          go_ret
          exact ⟨HFIN.out, HB1.out⟩
        · have HE2 : Hid (l = l' ↔ rest = rest') := by
            refine HE.out.trans (cons_inj.trans ⟨fun e => e.2, fun e => ⟨HBB.out.1 rfl, e⟩⟩)
          go_wp2_with fail
          exact ⟨⟨k + 1, rest, rest', by simp only [Ous.len] at hk; omega, by simp only [Ous.len] at hk'; omega, by first | rfl | go_num, HB1, HZ2, HF2, HF2', E4, E4', HE2⟩, by simp [intOf]; omega⟩
theorem sameO_iff {h h' : Oh} {sub sub' : Ous} (h1 : outB 20 h sub = true) (h2 : outB 20 h' sub' = true) : sameO h sub h' sub' = true ↔ h = h' ∧ sub = sub' := by
  unfold sameO
  rw [h1, h2, Bool.true_and, Bool.true_and]
  constructor
  · intro e; exact out_inj h1 h2 (bytes_of e)
  · rintro ⟨rfl, rfl⟩; simp
theorem implOK_is (h : Oh) (sub : Ous) (a1 a2 : Option Addr) (c1 c2 : Nat) (w : World) (b : Bool) (r1 : KeRow 0 w.heap.size w a1 h.keys) (hc : h.keys.length ≤ c1) (r2 : OuRow 0 w.heap.size w a2 sub) (hb : OhBd 1048576 h) (hl : sub.len ≤ 1048576) (hs : OusBd 1048576 sub) (hq : outB 20 h sub = b) :
    Calls Tryz.prog 16 #[.agg #[.int .i64 h.k, .int .i64 h.n, .string h.t, .slice a1 h.keys.length c1, .slice a2 sub.len c2]] w fun e w' => e = .returned (.bool b) ∧ Below w.heap.size w w' := by
  subst hq
  exact impl_outOK h sub a1 a2 c1 c2 w r1 hc r2 hb hl hs
set_option maxHeartbeats 8000000 in
set_option maxRecDepth 40000 in
theorem impl_sameOut (h h' : Oh) (sub sub' : Ous) (a1 a2 a1' a2' : Option Addr) (c1 c2 c1' c2' : Nat) (w : World) (r1 : KeRow 0 w.heap.size w a1 h.keys) (r2 : OuRow 0 w.heap.size w a2 sub) (r3 : KeRow 0 w.heap.size w a1' h'.keys) (r4 : OuRow 0 w.heap.size w a2' sub')
    (hx : h.keys.length ≤ c1 ∧ OhBd 1048576 h ∧ sub.len ≤ 1048576 ∧ OusBd 1048576 sub) (hy : h'.keys.length ≤ c1' ∧ OhBd 1048576 h' ∧ sub'.len ≤ 1048576 ∧ OusBd 1048576 sub') :
    Calls Tryz.prog 17 #[.agg #[.int .i64 h.k, .int .i64 h.n, .string h.t, .slice a1 h.keys.length c1, .slice a2 sub.len c2], .agg #[.int .i64 h'.k, .int .i64 h'.n, .string h'.t, .slice a1' h'.keys.length c1', .slice a2' sub'.len c2']] w fun e w' => e = .returned (.bool (sameO h sub h' sub')) ∧ Below w.heap.size w w' := by
  obtain ⟨V, hV⟩ : ∃ V, V = ((w.alloc (.cells #[.int .i64 h.k, .int .i64 h.n, .string h.t, .slice a1 h.keys.length c1, .slice a2 sub.len c2] 26)).alloc (.cells #[.int .i64 h'.k, .int .i64 h'.n, .string h'.t, .slice a1' h'.keys.length c1', .slice a2' sub'.len c2'] 26)) := ⟨_, rfl⟩
  have BV : Below w.heap.size w V := by
    rw [hV]
    repeat (first | exact Below.refl _ _ | refine Below.alloc ?_ (by first | omega | (simp <;> omega)) _)
  have e1 : V.heap[w.heap.size + 1]? = some (.cells #[.int .i64 h'.k, .int .i64 h'.n, .string h'.t, .slice a1' h'.keys.length c1', .slice a2' sub'.len c2'] 26 (0, 0)) := by
    rw [hV]
    have := heap_alloc_new (w.alloc (.cells #[.int .i64 h.k, .int .i64 h.n, .string h.t, .slice a1 h.keys.length c1, .slice a2 sub.len c2] 26)) (.cells #[.int .i64 h'.k, .int .i64 h'.n, .string h'.t, .slice a1' h'.keys.length c1', .slice a2' sub'.len c2'] 26 (0, 0))
    simpa using this
  have e0 : V.heap[w.heap.size]? = some (.cells #[.int .i64 h.k, .int .i64 h.n, .string h.t, .slice a1 h.keys.length c1, .slice a2 sub.len c2] 26 (0, 0)) := by
    rw [hV]
    refine (Below.heap_alloc _ _ _ (by simp)).trans ?_
    exact heap_alloc_new _ _
  have x0 := fun o => row_cell e0 o
  have KV : Hid (∀ W, Below V.heap.size V W → (KeRow 0 W.heap.size W a1 h.keys ∧ OuRow 0 W.heap.size W a2 sub) ∧ (KeRow 0 W.heap.size W a1' h'.keys ∧ OuRow 0 W.heap.size W a2' sub') ∧ Below w.heap.size w W ∧ W.heap[w.heap.size]? = V.heap[w.heap.size]? ∧ W.heap[w.heap.size + 1]? = V.heap[w.heap.size + 1]?) := fun W hW =>
    have hb := BV.trans (hW.mono BV.size)
    ⟨⟨KeRow.up r1 hb, OuRow.up r2 hb⟩, ⟨KeRow.up r3 hb, OuRow.up r4 hb⟩, hb, hW.block _ (Array.getElem?_eq_some_iff.1 e0).1, hW.block _ (Array.getElem?_eq_some_iff.1 e1).1⟩
  have HV0 : Hid _ := e0
  have HV1 : Hid _ := e1
  have HX : Hid _ := hx
  have HY : Hid _ := hy
  clear e0 e1 r1 r2 r3 r4 hx hy BV
  go_enter Tryz.func17, Tryz.ntmps17
  go_upto_region 1 with fail
  rw [← hV]
  clear hV
  go_wp2_with fail
  refine (impl_outOK h sub a1 a2 c1 c2 _ (KV.out _ (Below.refl _ _)).1.1 HX.out.1 (KV.out _ (Below.refl _ _)).1.2 HX.out.2.1 HX.out.2.2.1 HX.out.2.2.2).mono ?_
  rintro e w1 ⟨rfl, hb1⟩
  have HB1 : Hid _ := hb1
  have y1 := fun o => row_cell ((KV.out _ hb1).2.2.2.2.trans HV1.out) o
  have HBW : Hid (Below w.heap.size w w1) := (KV.out _ hb1).2.2.1
  clear hb1 x0
  cases ho : outB 20 h sub
  · have HF : Hid (sameO h sub h' sub' = false) := by unfold Hid sameO; rw [ho]; rfl
    go_wp2_with fail
    go_ret
    exact ⟨ret_bool HF.out.symm, HBW.out⟩
  go_wp2_with fail
  refine (impl_outOK h' sub' a1' a2' c1' c2' _ (KV.out _ HB1.out).2.1.1 HY.out.1 (KV.out _ HB1.out).2.1.2 HY.out.2.1 HY.out.2.2.1 HY.out.2.2.2).mono ?_
  rintro e w2 ⟨rfl, hb2⟩
  have HB2 : Hid (Below V.heap.size V w2) := HB1.out.trans (hb2.mono HB1.out.size)
  have z0 := fun o => row_cell ((KV.out _ HB2.out).2.2.2.1.trans HV0.out) o
  have z1 := fun o => row_cell ((KV.out _ HB2.out).2.2.2.2.trans HV1.out) o
  have HBW2 : Hid (Below w.heap.size w w2) := (KV.out _ HB2.out).2.2.1
  clear hb2 y1
  cases ho' : outB 20 h' sub'
  · have HF : Hid (sameO h sub h' sub' = false) := by unfold Hid sameO; rw [ho']; simp
    go_wp2_with fail
    go_ret
    exact ⟨ret_bool HF.out.symm, HBW2.out⟩
  have HI : Hid _ := sameO_iff ho ho'
  go_wp2_with fail
  refine (impl_sameOne h h' sub sub' (impl_sameL sub) a1 a2 a1' a2' c1 c2 c1' c2' _ (KV.out _ HB2.out).1.1 (KV.out _ HB2.out).1.2 (KV.out _ HB2.out).2.1.1 (KV.out _ HB2.out).2.1.2 HX.out.2 HY.out.2).mono ?_
  rintro e w3 ⟨⟨bb, rfl, hbb⟩, hb3⟩
  have HF : Hid (bb = sameO h sub h' sub') := by
    rw [Hid, Bool.eq_iff_iff]; exact hbb.trans HI.out.symm
  have HB3 : Hid (Below w.heap.size w w3) := HBW2.out.trans (hb3.mono HBW2.out.size)
  clear hbb hb3
  go_wp2_with fail
  go_ret
  exact ⟨ret_bool HF.out, HB3.out⟩
end Go.Proofs.YtoaeggfnlenjkaaGreatDoor.G
namespace Go.Proofs.YtoaeggfnlenjkaaGreatDoor.G
open Go.ChangeShapes Go.WideShapes Go.ChangeAt Go.RowKit
set_option linter.unusedVariables false

def dstO (i : Nat) : Nat := if i = 12 then 3 else i + 5
theorem dstO_inj (i j : Nat) (hi : i < 13) (hj : j < 13) (h : dstO i = dstO j) : i = j := by
  unfold dstO at h
  split at h <;> split at h <;> omega
/-- What the first region's operations tell. -/
def OsPv (w : World) (N0 : Nat) (h : Oh) (sub : Ous) (a1 a2 : Option Addr) (c1 c2 : Nat) : Nat → Value → World → Prop
  | 0, v, _ => v = .pointer (some ⟨w.heap.size, 0, none⟩)
  | 1, v, _ => v = .int .i64 h.k
  | 2, v, _ => v = .pointer (some ⟨w.heap.size, 1, none⟩)
  | 3, v, _ => v = .int .i64 h.n
  | 4, v, _ => v = .pointer (some ⟨w.heap.size, 2, none⟩)
  | 5, v, _ => v = .string h.t
  | 6, v, _ => ∃ g, v = .slice g 0 0
  | 7, v, _ => v = .pointer (some ⟨w.heap.size, 3, none⟩)
  | 8, v, _ => v = .slice a1 h.keys.length c1
  | 9, v, W => ∃ b d, v = .slice b h.keys.length d ∧ h.keys.length ≤ d ∧ KeOwn N0 W.heap.size W b h.keys
  | 10, v, W => ∃ g, v = .slice (some ⟨g, 0, none⟩) 0 0 ∧ N0 ≤ g ∧ W.heap[g]? = some (.cells #[] 26 (0, 0))
  | 11, v, W => ∃ b d g, v = .agg #[.int .i64 h.k, .int .i64 h.n, .string h.t, .slice b h.keys.length d, .slice (some ⟨g, 0, none⟩) 0 0] ∧ h.keys.length ≤ d ∧ KeOwn N0 W.heap.size W b h.keys ∧ N0 ≤ g ∧ W.heap[g]? = some (.cells #[] 26 (0, 0))
  | 12, v, W => ∃ B, v = .pointer (some ⟨B, 0, none⟩) ∧ N0 ≤ B ∧ W.heap[B]? = some (.cells #[.int .i64 0, .int .i64 0, .string ⟨#[]⟩, .slice none 0 0, .slice none 0 0] 26 (0, 0))
  | _, _, _ => True
theorem OsPv.up {w : World} {N0 : Nat} {h : Oh} {sub : Ous} {a1 a2 : Option Addr} {c1 c2 : Nat} (i : Nat) (v : Value) (W W' : World) (H : OsPv w N0 h sub a1 a2 c1 c2 i v W) (hb : Below W.heap.size W W') : OsPv w N0 h sub a1 a2 c1 c2 i v W' := by
  have bl : ∀ {g : Nat} {o : Obj}, W.heap[g]? = some o → W'.heap[g]? = some o := fun hg => (hb.block _ (Array.getElem?_eq_some_iff.1 hg).1).trans hg
  unfold OsPv at H ⊢
  split at H
  case h_10 => obtain ⟨b, d, e1, e2, e3⟩ := H; exact ⟨b, d, e1, e2, (e3.keep (agree hb (Nat.le_refl _))).wide (Nat.le_refl _) hb.size⟩
  case h_11 => obtain ⟨g, e1, e2, e3⟩ := H; exact ⟨g, e1, e2, bl e3⟩
  case h_12 => obtain ⟨b, d, g, e1, e2, e3, e4, e5⟩ := H; exact ⟨b, d, g, e1, e2, (e3.keep (agree hb (Nat.le_refl _))).wide (Nat.le_refl _) hb.size, e4, bl e5⟩
  case h_13 => obtain ⟨B, e1, e2, e3⟩ := H; exact ⟨B, e1, e2, bl e3⟩
  all_goals exact H
/-- What the second region's operations tell. -/
def OtPv (B S N k : Nat) (v : Value) (A pk : Value) (h : Oh) (sub : Ous) (a1 a2 : Option Addr) (c1 c2 : Nat) : Nat → Value → World → Prop
  | 0, y, _ => y = .pointer (some ⟨B, 4, none⟩)
  | 1, y, _ => y = v
  | 2, y, _ => y = .pointer (some ⟨S, 4, none⟩)
  | 3, y, _ => y = A
  | 4, y, _ => y = .int .i64 k
  | 5, y, _ => y = pk
  | 6, y, _ => y = .agg #[.int .i64 h.k, .int .i64 h.n, .string h.t, .slice a1 h.keys.length c1, .slice a2 sub.len c2]
  | 7, y, W => ∃ b1 d1 b2 d2, y = .agg #[.int .i64 h.k, .int .i64 h.n, .string h.t, .slice b1 h.keys.length d1, .slice b2 sub.len d2] ∧ h.keys.length ≤ d1 ∧ KeRow N W.heap.size W b1 h.keys ∧ OuRow N W.heap.size W b2 sub
  | 8, y, W => ∃ g b1 d1 b2 d2, y = .slice (some ⟨g, 0, none⟩) 1 1 ∧ N ≤ g ∧ W.heap[g]? = some (.cells #[.int .i64 h.k, .int .i64 h.n, .string h.t, .slice b1 h.keys.length d1, .slice b2 sub.len d2] 26 (0, 0)) ∧ h.keys.length ≤ d1 ∧ KeRow N W.heap.size W b1 h.keys ∧ OuRow N W.heap.size W b2 sub
  | 9, _, _ => True
  | 10, y, _ => y = .pointer (some ⟨B, 4, none⟩)
  | _, _, _ => True
theorem OtPv.up {B S N k : Nat} {v : Value} {A pk : Value} {h : Oh} {sub : Ous} {a1 a2 : Option Addr} {c1 c2 : Nat} {W W' : World} (hs : W.heap.size ≤ W'.heap.size) (hk : ∀ g, N ≤ g → g < W.heap.size → W'.heap[g]? = W.heap[g]?) {i : Nat} {y : Value} (H : OtPv B S N k v A pk h sub a1 a2 c1 c2 i y W) : OtPv B S N k v A pk h sub a1 a2 c1 c2 i y W' := by
  unfold OtPv at H ⊢
  split at H
  case h_8 => obtain ⟨b1, d1, b2, d2, e1, e2, e3, e4⟩ := H; exact ⟨b1, d1, b2, d2, e1, e2, KeRow.wide (KeRow.keep e3 hk) (Nat.le_refl _) hs, OuRow.wide (OuRow.keep e4 hk) (Nat.le_refl _) hs⟩
  case h_9 => obtain ⟨g, b1, d1, b2, d2, e1, e2, e3, e4, e5, e6⟩ := H; exact ⟨g, b1, d1, b2, d2, e1, e2, (hk g e2 (Array.getElem?_eq_some_iff.1 e3).1).trans e3, e4, KeRow.wide (KeRow.keep e5 hk) (Nat.le_refl _) hs, OuRow.wide (OuRow.keep e6 hk) (Nat.le_refl _) hs⟩
  all_goals exact H
theorem five_one {k n : Int} {t : ByteArray} {b1 b2 : Option Addr} {n1 n2 f1 f2 : Nat} : ∀ u ∈ ([.int .i64 k, .int .i64 n, .string t, .slice b1 n1 f1, .slice b2 n2 f2] : List Value), u.oneCell' = true := by
  intro u hu
  simp only [List.mem_cons, List.not_mem_nil, or_false] at hu
  rcases hu with rfl | rfl | rfl | rfl | rfl <;> rfl
end Go.Proofs.YtoaeggfnlenjkaaGreatDoor.G
namespace Go.Proofs.YtoaeggfnlenjkaaGreatDoor.G
open Go.ChangeShapes Go.WideShapes Go.ChangeAt Go.RowKit
set_option linter.unusedVariables false

def put3 (cs : Array Value) (k : Nat) (v0 v1 v2 : Value) : Array Value := ((cs.setIfInBounds k v0).setIfInBounds (k + 1) v1).setIfInBounds (k + 2) v2
theorem put3_at {cs : Array Value} {k : Nat} {v0 v1 v2 : Value} (h : k + 2 < cs.size) : (put3 cs k v0 v1 v2)[k]? = some v0 ∧ (put3 cs k v0 v1 v2)[k + 1]? = some v1 ∧ (put3 cs k v0 v1 v2)[k + 2]? = some v2 := by
  unfold put3
  refine ⟨?_, ?_, ?_⟩ <;> simp [Array.getElem?_setIfInBounds] <;> omega
theorem put3_ne {cs : Array Value} {k : Nat} {v0 v1 v2 : Value} {j : Nat} (h : j < k ∨ k + 3 ≤ j) : (put3 cs k v0 v1 v2)[j]? = cs[j]? := by
  unfold put3
  rw [Array.getElem?_setIfInBounds_ne (by omega), Array.getElem?_setIfInBounds_ne (by omega), Array.getElem?_setIfInBounds_ne (by omega)]
theorem OuSeq.mark_step {w0 w5 : World} {b m m1 m3 hi n q K : Nat} {cs : Array Value} {pre : List (Oh × Ous)} {h : Oh} {sub rest : Ous} {a3 a5 : Option Addr} {d3 d5 : Nat} {v0 v1 v2 : Value}
    (hlen : pre.length = n) (hcs : n * 5 + 5 ≤ cs.size) (HP : OuSeq w0 (appO (mkPo K pre) .nil) cs 0 (b + 1) m) (HR : OuSeq w0 rest cs (n * 5 + 5) m3 hi) (e1 : m ≤ m1) (e2 : m1 ≤ m3)
    (p3 : cs[n * 5 + 3]? = some (.slice a3 h.keys.length d3)) (pc : h.keys.length ≤ d3) (p5 : cs[n * 5 + 4]? = some (.slice a5 sub.len d5))
    (o3 : KeOwn m m1 w5 a3 (mkKe (q + 3) h.keys)) (o5 : OuOwn m1 m3 w5 a5 (mkO (q + cOh h) sub))
    (S : ∀ g, b < g → g < hi → (g < m ∨ m3 ≤ g) → w5.heap[g]? = w0.heap[g]?) (ev0 : v0 = .int .i64 (q : Int)) (ev1 : v1 = .int .i64 ((q + 1 : Nat) : Int)) (ev2 : v2 = .string (mkT (q + 2))) (hq : q = K + cPo pre) :
    OuSeq w5 (appO (mkPo K (pre ++ [(h, sub)])) .nil) (put3 cs (n * 5) v0 v1 v2) 0 (b + 1) m3 ∧ OuSeq w5 rest (put3 cs (n * 5) v0 v1 v2) ((n + 1) * 5) m3 hi := by
  have hm := HP.le
  have hr := HR.le
  subst hlen
  obtain ⟨g0, g1, g2⟩ := put3_at (cs := cs) (k := pre.length * 5) (v0 := v0) (v1 := v1) (v2 := v2) (by omega)
  have gx : ∀ j, j < pre.length * 5 ∨ pre.length * 5 + 3 ≤ j → (put3 cs (pre.length * 5) v0 v1 v2)[j]? = cs[j]? := fun j hj => put3_ne hj
  generalize put3 cs (pre.length * 5) v0 v1 v2 = cs' at *
  constructor
  · rw [mkPo_snoc, ← hq]
    refine OuSeq.snoc _ (OuSeq.cells (cs := cs) (OuSeq.keep HP fun g h1 h2 => S g (by omega) (by omega) (.inl h2)) fun j _ hj => gx j ?_) ?_
    · rw [appO_len, mkPo_len] at hj
      simp only [Ous.len] at hj
      omega
    · rw [mkPo_len, show 0 + 5 * pre.length = pre.length * 5 by omega]
      refine ⟨m1, e1, e2, g0.trans (by rw [ev0]; rfl), g1.trans (by rw [ev1]; rfl), g2.trans (by rw [ev2]; rfl), ⟨a3, d3, ?_, ?_, o3⟩, ⟨a5, d5, ?_, o5⟩⟩
      · rw [gx _ (by omega), p3]; simp only [mkOh, mkKe_len]
      · simp only [mkOh, mkKe_len]; exact pc
      · rw [gx _ (by omega), p5, mkO_len]
  · rw [show (pre.length + 1) * 5 = pre.length * 5 + 5 by omega]
    exact OuSeq.cells (cs := cs) (OuSeq.keep HR fun g h1 h2 => S g (by omega) h2 (.inr h1)) fun j h1 _ => gx j (by omega)

/-- A value's lists, owned, one behind the other. -/
def PartsO (lo hi : Nat) (w : World) (b1 b2 : Option Addr) (h : Oh) (sub : Ous) : Prop := ∃ m1, lo ≤ m1 ∧ m1 ≤ hi ∧ KeOwn lo m1 w b1 h.keys ∧ OuOwn m1 hi w b2 sub
theorem PartsO.keep {lo hi : Nat} {w w' : World} {b1 b2 : Option Addr} {h : Oh} {sub : Ous} (H : PartsO lo hi w b1 b2 h sub) (hk : Agree lo hi w w') : PartsO lo hi w' b1 b2 h sub := by
  obtain ⟨m1, e1, e2, p1, p2⟩ := H
  exact ⟨m1, e1, e2, p1.keep fun g h1 h2 => hk g (by omega) (by omega), p2.keep fun g h1 h2 => hk g (by omega) (by omega)⟩
theorem PartsO.wide {lo hi lo' hi' : Nat} {w : World} {b1 b2 : Option Addr} {h : Oh} {sub : Ous} (H : PartsO lo hi w b1 b2 h sub) (e1 : lo' ≤ lo) (e2 : hi ≤ hi') : PartsO lo' hi' w b1 b2 h sub := by
  obtain ⟨m1, f1, f2, p1, p2⟩ := H
  exact ⟨m1, by omega, by omega, p1.wide e1 (Nat.le_refl _), p2.wide (Nat.le_refl _) e2⟩
theorem PartsO.rows {lo hi : Nat} {w : World} {b1 b2 : Option Addr} {h : Oh} {sub : Ous} (H : PartsO lo hi w b1 b2 h sub) : KeRow lo hi w b1 h.keys ∧ OuRow lo hi w b2 sub := by
  obtain ⟨m1, f1, f2, p1, p2⟩ := H
  exact ⟨ke_row (p1.wide (Nat.le_refl _) f2), (p2.wide f1 (Nat.le_refl _)).row⟩
/-- What marks leave of a value: its lists' marks. -/
def mkTop (K : Nat) (h : Oh) : Oh := ⟨h.k, h.n, h.t, mkKe K h.keys⟩
end Go.Proofs.YtoaeggfnlenjkaaGreatDoor.G
