/- The program's SameOut. -/
import Derived.Test.YtjmkcbjfjejaaaaOuSame
import Derived.Test.YtjmkcbjfjejaaaaOuSameSpec
namespace Go.Proofs.Ytjmkcbjfjejaaaa.G
open Go.ChangeShapes Go.WideShapes Go.ChangeAt Go.RowKit
set_option linter.unusedVariables false

/-- A list without its first k. -/
def dropO : Nat → Ous → Ous
  | 0, l => l
  | _ + 1, .nil => .nil
  | k + 1, .cons _ _ r => dropO k r
theorem cons_inj {h h' : Oh} {s s' r r' : Ous} : Ous.cons h s r = Ous.cons h' s' r' ↔ (h = h' ∧ s = s') ∧ r = r' := by
  constructor
  · intro e; cases e; exact ⟨⟨rfl, rfl⟩, rfl⟩
  · rintro ⟨⟨rfl, rfl⟩, rfl⟩; rfl
set_option maxHeartbeats 8000000 in
set_option maxRecDepth 40000 in
theorem impl_sameL (l : Ous) : SameL l := by
  induction hN : l.size using Nat.strongRecOn generalizing l with
  | _ N ih =>
  subst hN
  intro l' a a' c c' w r1 r2 hl hl' hs hs'
  have IH : Hid (∀ s : Ous, s.size < l.size → SameL s) := fun s hlt => ih s.size hlt s rfl
  have HR : Hid (OuFrom 0 w.heap.size w a 0 l) := r1.from_
  have HR' : Hid (OuFrom 0 w.heap.size w a' 0 l') := r2.from_
  have HS : Hid _ := hs
  have HS' : Hid _ := hs'
  clear r1 r2 hs hs' ih
  by_cases hn : l.len = l'.len
  case neg =>
    have hq : ((l.len : Int) != l'.len) = true := by simp; omega
    have HF : Hid (SaysO (.returned (.bool false)) (l = l')) := SaysO.no fun e => hn (by rw [e])
    clear hn
    go_enter Try.func42, Try.ntmps42
    go_wp2_with fail
    go_ret
    exact ⟨HF.out, Below.refl _ _⟩
  have hq : ((l.len : Int) != l'.len) = false := by simp [hn]
  have HN : Hid (l.len = l'.len) := hn
  clear hn
  go_enter Try.func42, Try.ntmps42
  go_wp2_with fail
  clear hq
  go_loopw [17] (fun i w' => ∃ (k : Nat) (q q' : Ous), k + q.len = l.len ∧ k + q'.len = l'.len ∧ i = .int .i64 k ∧ Hid (Below w.heap.size w w') ∧ Hid (q.size ≤ l.size) ∧ Hid (OuFrom 0 w.heap.size w a k q) ∧ Hid (OuFrom 0 w.heap.size w a' k q') ∧ Hid (OusBd 1048576 q) ∧ Hid (OusBd 1048576 q') ∧ Hid (l = l' ↔ q = q')) (fun i _ => l.len - (intOf i).toNat)
  case atStart => exact ⟨0, l, l', by omega, by omega, rfl, Below.refl _ _, Nat.le_refl _, HR, HR', HS, HS', Iff.rfl⟩
  case round =>
    obtain ⟨wo, rfl⟩ : ∃ x, x = wr := ⟨_, rfl⟩
    obtain ⟨k, q, q', hk, hk', rfl, HB, HZ, HF, HF', HD, HD', HE⟩ := hrel
    have hzo := HB.out.size
    cases q with
    | nil =>
      have hq' : q' = .nil := Ous.nil_of (by have := HN.out; simp only [Ous.len] at hk; omega)
      have HFIN : Hid (SaysO (.returned (.bool true)) (l = l')) := SaysO.yes (HE.out.2 hq'.symm)
      have hnl : ¬ (k : Int) < l.len := by simp only [Ous.len] at hk; omega
      clear hk hk' hq'
      go_wp2_with fail
      go_ret
      exact ⟨HFIN.out, HB.out⟩
    | cons h sub rest =>
      cases q' with
      | nil => exfalso; have := HN.out; simp only [Ous.len] at hk hk'; omega
      | cons h' sub' rest' =>
        have hlt : (k : Int) < l.len := by simp only [Ous.len] at hk; omega
        have hlt' : (k : Int) < l'.len := by simp only [Ous.len] at hk'; omega
        obtain ⟨b, o, a1, c1, a2, c2, ha, _, hbl, d0, d1, d2, d3, d4, hc, p1, p2, _⟩ := OuFrom.step (OuFrom.keep HF.out (agree HB.out (Nat.le_refl _)))
        obtain ⟨b', o', a1', c1', a2', c2', ha', _, hbl', d0', d1', d2', d3', d4', hc', p1', p2', _⟩ := OuFrom.step (OuFrom.keep HF'.out (agree HB.out (Nat.le_refl _)))
        have HF2 : Hid (OuFrom 0 w.heap.size w a (k + 1) rest) := by
          obtain ⟨_, _, _, _, _, _, _, _, _, _, _, _, _, _, _, _, _, rf9⟩ := OuFrom.step HF.out
          exact rf9
        have HF2' : Hid (OuFrom 0 w.heap.size w a' (k + 1) rest') := by
          obtain ⟨_, _, _, _, _, _, _, _, _, _, _, _, _, _, _, _, _, rf9⟩ := OuFrom.step HF'.out
          exact rf9
        obtain ⟨g1, g2, g3, g4⟩ := HD.out
        obtain ⟨g1', g2', g3', g4'⟩ := HD'.out
        have HX : Hid (OhBd 1048576 h ∧ sub.len ≤ 1048576 ∧ OusBd 1048576 sub) := ⟨g1, g2, g3⟩
        have HY : Hid (OhBd 1048576 h' ∧ sub'.len ≤ 1048576 ∧ OusBd 1048576 sub') := ⟨g1', g2', g3'⟩
        have E4 : Hid _ := g4
        have E4' : Hid _ := g4'
        have HZ2 : Hid (rest.size ≤ l.size) := by have := HZ.out; simp only [Ous.size] at this; unfold Hid; omega
        have HIS : Hid (SameL sub) := IH.out sub (by have := HZ.out; simp only [Ous.size] at this; omega)
        have R : Hid (∀ W, Below wo.heap.size wo W → (KeRow 0 W.heap.size W a1 h.keys ∧ OuRow 0 W.heap.size W a2 sub) ∧ (KeRow 0 W.heap.size W a1' h'.keys ∧ OuRow 0 W.heap.size W a2' sub')) := fun W hW =>
          ⟨⟨KeRow.up (KeRow.wide p1 (Nat.le_refl _) hzo) hW, OuRow.up (OuRow.wide p2 (Nat.le_refl _) hzo) hW⟩, ⟨KeRow.up (KeRow.wide p1' (Nat.le_refl _) hzo) hW, OuRow.up (OuRow.wide p2' (Nat.le_refl _) hzo) hW⟩⟩
        subst ha ha'
        have q0 := fun ob o => (((Below.refl wo.heap.size wo).alloc (Nat.le_refl _) ob).cell (p := ⟨b', o, none⟩) (show b' < wo.heap.size by omega))
        clear g1 g3 g4 g1' g3' g4' p1 p2 p1' p2' HF HF' HD HD'
        go_wp2_with fail
        have QB : Hid (Below wo.heap.size wo ((wo.alloc (.cells #[.int .i64 h.k, .int .i64 h.n, .string h.t, .slice a1 h.keys.length c1, .slice a2 sub.len c2] 30)).alloc (.cells #[.int .i64 h'.k, .int .i64 h'.n, .string h'.t, .slice a1' h'.keys.length c1', .slice a2' sub'.len c2'] 30))) := by
          repeat (first | exact Below.refl _ _ | refine Below.alloc ?_ (by first | omega | (simp <;> omega)) _)
        refine (impl_sameOne h h' sub sub' HIS.out a1 a2 a1' a2' c1 c2 c1' c2' _ (R.out _ QB.out).1.1 (R.out _ QB.out).1.2 (R.out _ QB.out).2.1 (R.out _ QB.out).2.2 HX.out HY.out).mono ?_
        rintro e w1 ⟨⟨bb, rfl, hbb⟩, hb1⟩
        have HB1 : Hid (Below w.heap.size w w1) := HB.out.trans ((QB.out.trans (hb1.mono QB.out.size)).mono hzo)
        have HBB : Hid _ := hbb
        clear hb1 hbb d0 d1 d2 d3 d4 d0' d1' d2' d3' d4' q0
        cases bb
        · have HFIN : Hid (SaysO (.returned (.bool false)) (l = l')) := SaysO.no fun e => by
            have := HBB.out.2 (cons_inj.1 (HE.out.1 e)).1
            cases this
          go_wp2_with fail
          go_ret
          exact ⟨HFIN.out, HB1.out⟩
        · have HE2 : Hid (l = l' ↔ rest = rest') := by
            refine HE.out.trans (cons_inj.trans ⟨fun e => e.2, fun e => ⟨HBB.out.1 rfl, e⟩⟩)
          go_wp2_with fail
          exact ⟨⟨k + 1, rest, rest', by simp only [Ous.len] at hk; omega, by simp only [Ous.len] at hk'; omega, by first | rfl | go_num, HB1, HZ2, HF2, HF2', E4, E4', HE2⟩, by simp [intOf]; omega⟩
theorem sameO_iff {h h' : Oh} {sub sub' : Ous} (h1 : outB 20 h sub = true) (h2 : outB 20 h' sub' = true) : sameO h sub h' sub' = true ↔ h = h' ∧ sub = sub' := by
  unfold sameO
  rw [h1, h2, Bool.true_and, Bool.true_and]
  constructor
  · intro e; exact out_inj h1 h2 (bytes_of e)
  · rintro ⟨rfl, rfl⟩; simp
theorem implOK_is (h : Oh) (sub : Ous) (a1 a2 : Option Addr) (c1 c2 : Nat) (w : World) (b : Bool) (r1 : KeRow 0 w.heap.size w a1 h.keys) (hc : h.keys.length ≤ c1) (r2 : OuRow 0 w.heap.size w a2 sub) (hb : OhBd 1048576 h) (hl : sub.len ≤ 1048576) (hs : OusBd 1048576 sub) (hq : outB 20 h sub = b) :
    Calls Try.prog 9 #[.agg #[.int .i64 h.k, .int .i64 h.n, .string h.t, .slice a1 h.keys.length c1, .slice a2 sub.len c2]] w fun e w' => e = .returned (.bool b) ∧ Below w.heap.size w w' := by
  subst hq
  exact impl_outOK h sub a1 a2 c1 c2 w r1 hc r2 hb hl hs
set_option maxHeartbeats 8000000 in
set_option maxRecDepth 40000 in
theorem impl_sameOut (h h' : Oh) (sub sub' : Ous) (a1 a2 a1' a2' : Option Addr) (c1 c2 c1' c2' : Nat) (w : World) (r1 : KeRow 0 w.heap.size w a1 h.keys) (r2 : OuRow 0 w.heap.size w a2 sub) (r3 : KeRow 0 w.heap.size w a1' h'.keys) (r4 : OuRow 0 w.heap.size w a2' sub')
    (hx : h.keys.length ≤ c1 ∧ OhBd 1048576 h ∧ sub.len ≤ 1048576 ∧ OusBd 1048576 sub) (hy : h'.keys.length ≤ c1' ∧ OhBd 1048576 h' ∧ sub'.len ≤ 1048576 ∧ OusBd 1048576 sub') :
    Calls Try.prog 12 #[.agg #[.int .i64 h.k, .int .i64 h.n, .string h.t, .slice a1 h.keys.length c1, .slice a2 sub.len c2], .agg #[.int .i64 h'.k, .int .i64 h'.n, .string h'.t, .slice a1' h'.keys.length c1', .slice a2' sub'.len c2']] w fun e w' => e = .returned (.bool (sameO h sub h' sub')) ∧ Below w.heap.size w w' := by
  obtain ⟨V, hV⟩ : ∃ V, V = ((w.alloc (.cells #[.int .i64 h.k, .int .i64 h.n, .string h.t, .slice a1 h.keys.length c1, .slice a2 sub.len c2] 30)).alloc (.cells #[.int .i64 h'.k, .int .i64 h'.n, .string h'.t, .slice a1' h'.keys.length c1', .slice a2' sub'.len c2'] 30)) := ⟨_, rfl⟩
  have BV : Below w.heap.size w V := by
    rw [hV]
    repeat (first | exact Below.refl _ _ | refine Below.alloc ?_ (by first | omega | (simp <;> omega)) _)
  have e1 : V.heap[w.heap.size + 1]? = some (.cells #[.int .i64 h'.k, .int .i64 h'.n, .string h'.t, .slice a1' h'.keys.length c1', .slice a2' sub'.len c2'] 30 (0, 0)) := by
    rw [hV]
    have := heap_alloc_new (w.alloc (.cells #[.int .i64 h.k, .int .i64 h.n, .string h.t, .slice a1 h.keys.length c1, .slice a2 sub.len c2] 30)) (.cells #[.int .i64 h'.k, .int .i64 h'.n, .string h'.t, .slice a1' h'.keys.length c1', .slice a2' sub'.len c2'] 30 (0, 0))
    simpa using this
  have e0 : V.heap[w.heap.size]? = some (.cells #[.int .i64 h.k, .int .i64 h.n, .string h.t, .slice a1 h.keys.length c1, .slice a2 sub.len c2] 30 (0, 0)) := by
    rw [hV]
    refine (Below.heap_alloc _ _ _ (by simp)).trans ?_
    exact heap_alloc_new _ _
  have x0 := fun o => row_cell e0 o
  have KV : Hid (∀ W, Below V.heap.size V W → (KeRow 0 W.heap.size W a1 h.keys ∧ OuRow 0 W.heap.size W a2 sub) ∧ (KeRow 0 W.heap.size W a1' h'.keys ∧ OuRow 0 W.heap.size W a2' sub') ∧ Below w.heap.size w W ∧ W.heap[w.heap.size]? = V.heap[w.heap.size]? ∧ W.heap[w.heap.size + 1]? = V.heap[w.heap.size + 1]?) := fun W hW =>
    have hb := BV.trans (hW.mono BV.size)
    ⟨⟨KeRow.up r1 hb, OuRow.up r2 hb⟩, ⟨KeRow.up r3 hb, OuRow.up r4 hb⟩, hb, hW.block _ (Array.getElem?_eq_some_iff.1 e0).1, hW.block _ (Array.getElem?_eq_some_iff.1 e1).1⟩
  have HV0 : Hid _ := e0
  have HV1 : Hid _ := e1
  have HX : Hid _ := hx
  have HY : Hid _ := hy
  clear e0 e1 r1 r2 r3 r4 hx hy BV
  go_enter Try.func12, Try.ntmps12
  go_upto_region 1 with fail
  rw [← hV]
  clear hV
  go_wp2_with fail
  refine (impl_outOK h sub a1 a2 c1 c2 _ (KV.out _ (Below.refl _ _)).1.1 HX.out.1 (KV.out _ (Below.refl _ _)).1.2 HX.out.2.1 HX.out.2.2.1 HX.out.2.2.2).mono ?_
  rintro e w1 ⟨rfl, hb1⟩
  have HB1 : Hid _ := hb1
  have y1 := fun o => row_cell ((KV.out _ hb1).2.2.2.2.trans HV1.out) o
  have HBW : Hid (Below w.heap.size w w1) := (KV.out _ hb1).2.2.1
  clear hb1 x0
  cases ho : outB 20 h sub
  · have HF : Hid (sameO h sub h' sub' = false) := by unfold Hid sameO; rw [ho]; rfl
    go_wp2_with fail
    go_ret
    exact ⟨ret_bool HF.out.symm, HBW.out⟩
  go_wp2_with fail
  refine (impl_outOK h' sub' a1' a2' c1' c2' _ (KV.out _ HB1.out).2.1.1 HY.out.1 (KV.out _ HB1.out).2.1.2 HY.out.2.1 HY.out.2.2.1 HY.out.2.2.2).mono ?_
  rintro e w2 ⟨rfl, hb2⟩
  have HB2 : Hid (Below V.heap.size V w2) := HB1.out.trans (hb2.mono HB1.out.size)
  have z0 := fun o => row_cell ((KV.out _ HB2.out).2.2.2.1.trans HV0.out) o
  have z1 := fun o => row_cell ((KV.out _ HB2.out).2.2.2.2.trans HV1.out) o
  have HBW2 : Hid (Below w.heap.size w w2) := (KV.out _ HB2.out).2.2.1
  clear hb2 y1
  cases ho' : outB 20 h' sub'
  · have HF : Hid (sameO h sub h' sub' = false) := by unfold Hid sameO; rw [ho']; simp
    go_wp2_with fail
    go_ret
    exact ⟨ret_bool HF.out.symm, HBW2.out⟩
  have HI : Hid _ := sameO_iff ho ho'
  go_wp2_with fail
  refine (impl_sameOne h h' sub sub' (impl_sameL sub) a1 a2 a1' a2' c1 c2 c1' c2' _ (KV.out _ HB2.out).1.1 (KV.out _ HB2.out).1.2 (KV.out _ HB2.out).2.1.1 (KV.out _ HB2.out).2.1.2 HX.out.2 HY.out.2).mono ?_
  rintro e w3 ⟨⟨bb, rfl, hbb⟩, hb3⟩
  have HF : Hid (bb = sameO h sub h' sub') := by
    rw [Hid, Bool.eq_iff_iff]; exact hbb.trans HI.out.symm
  have HB3 : Hid (Below w.heap.size w w3) := HBW2.out.trans (hb3.mono HBW2.out.size)
  clear hbb hb3
  go_wp2_with fail
  go_ret
  exact ⟨ret_bool HF.out, HB3.out⟩
end Go.Proofs.Ytjmkcbjfjejaaaa.G
