/- Reading a text into tokens: that the specification's small texts compute what they should. -/
import Derived.Test.YtoaeggfnlenjkaaGreatDoorOuMark
import Derived.Test.YtoaeggfnlenjkaaGreatDoorOuClone
import Derived.Test.YtoaeggfnlenjkaaGreatDoorOuTextBoth
import Derived.Test.YtoaeggfnlenjkaaGreatDoorOuSpec
import Derived.Test.YtoaeggfnlenjkaaGreatDoorLexMathD
import Derived.Test.YtoaeggfnlenjkaaGreatDoorDigitsD
import Derived.WalkSpells
namespace Go.Proofs.YtoaeggfnlenjkaaGreatDoor.G
open Go.ChangeShapes Go.WideShapes Go.ChangeAt Go.RowKit
set_option linter.unusedVariables false

def oh0 : Oh := ⟨0, 0, ⟨#[]⟩, []⟩
def pickO : List ByteArray → Ous → ByteArray → Option (Oh × Ous)
  | k :: ks, .cons h s r, key => if (k.toList == key.toList) = true then some (h, s) else pickO ks r key
  | [], _, _ => none
  | _ :: _, .nil, _ => none
def drpO : Nat → Ous → Ous
  | 0, l => l
  | _ + 1, .nil => .nil
  | k + 1, .cons _ _ r => drpO k r
theorem drpO_len : ∀ (k : Nat) (l : Ous), (drpO k l).len = l.len - k
  | 0, l => by simp [drpO]
  | k + 1, .nil => by simp [drpO, Ous.len]
  | k + 1, .cons _ _ r => by simp [drpO, Ous.len, drpO_len k r]
theorem drpO_next : ∀ (k : Nat) (l : Ous) {h : Oh} {s r : Ous}, drpO k l = .cons h s r → drpO (k + 1) l = r
  | 0, l, h, s, r, e => by simp only [drpO] at e; rw [e]; rfl
  | k + 1, .nil, h, s, r, e => by simp [drpO] at e
  | k + 1, .cons _ _ r', h, s, r, e => by simp only [drpO] at e ⊢; exact drpO_next k r' e
theorem drpO_bd {m : Nat} : ∀ (k : Nat) (l : Ous), OusBd m l → OusBd m (drpO k l)
  | 0, l, h => h
  | k + 1, .nil, h => h
  | k + 1, .cons _ _ r, h => drpO_bd k r h.2.2.2
theorem pickO_drop {key : ByteArray} : ∀ (i : Nat) (ks : List ByteArray) (l : Ous), ks.length = l.len → (∀ j (h : j < ks.length), j < i → (ks[j].toList == key.toList) = false) → i ≤ ks.length → pickO ks l key = pickO (ks.drop i) (drpO i l) key
  | 0, ks, l, _, _, _ => by simp [drpO]
  | i + 1, [], l, _, _, h => by simp at h
  | i + 1, k :: ks, .nil, hl, _, _ => by simp [Ous.len] at hl
  | i + 1, k :: ks, .cons h s r, hl, hn, hi => by
    have h0 : (k.toList == key.toList) = false := hn 0 (by simp) (by omega)
    have := pickO_drop (key := key) i ks r (by simp [Ous.len] at hl; exact hl) (fun j h1 h2 => by have := hn (j + 1) (by simp; omega) (by omega); simpa using this) (by simp at hi; omega)
    rw [pickO, h0]
    simpa [drpO] using this
theorem pickO_none {key : ByteArray} {ks : List ByteArray} {l : Ous} (hl : ks.length = l.len) (hn : ∀ j (h : j < ks.length), (ks[j].toList == key.toList) = false) : pickO ks l key = none := by
  rw [pickO_drop ks.length ks l hl (fun j h _ => hn j h) (Nat.le_refl _), List.drop_length]; rfl
theorem pickO_hit {key : ByteArray} {ks : List ByteArray} {l : Ous} (hl : ks.length = l.len) {i : Nat} (hi : i < ks.length) (hn : ∀ j (h : j < ks.length), j < i → (ks[j].toList == key.toList) = false) (he : (ks[i].toList == key.toList) = true) {h : Oh} {s r : Ous} (hd : drpO i l = .cons h s r) : pickO ks l key = some (h, s) := by
  rw [pickO_drop i ks l hl hn (by omega), List.drop_eq_getElem_cons hi, hd, pickO, if_pos he]
theorem OuFrom.drp {lo hi : Nat} {w : World} {a : Option Addr} : ∀ (i k : Nat) (l : Ous), OuFrom lo hi w a k l → OuFrom lo hi w a (k + i) (drpO i l)
  | 0, k, l, h => h
  | i + 1, k, .nil, h => .inl rfl
  | i + 1, k, .cons h' s r, h => by
    obtain ⟨_, _, _, _, _, _, _, _, _, _, _, _, _, _, _, _, _, rf⟩ := OuFrom.step h
    have := OuFrom.drp i (k + 1) r rf
    rw [show k + (i + 1) = k + 1 + i by omega]
    exact this
def AtR (h : Oh) (sub : Ous) (key : ByteArray) (x : Oh) (s : Ous) (y : Int) : Prop :=
  (65536 < key.size ∧ x = oh0 ∧ s = .nil ∧ y = 2) ∨ (¬ 65536 < key.size ∧ ((¬ (outB 20 h sub = true ∧ h.k = 4) ∧ x = oh0 ∧ s = .nil ∧ y = 1) ∨ ((outB 20 h sub = true ∧ h.k = 4) ∧ ((pickO h.keys sub key = none ∧ x = oh0 ∧ s = .nil ∧ y = 5) ∨ (pickO h.keys sub key = some (x, s) ∧ y = 0)))))
theorem AtR.one {h : Oh} {sub : Ous} {key : ByteArray} {x x' : Oh} {s s' : Ous} {y y' : Int} (H : AtR h sub key x s y) (H' : AtR h sub key x' s' y') : x = x' ∧ s = s' ∧ y = y' := by
  rcases H with ⟨a, rfl, rfl, rfl⟩ | ⟨a, ⟨b, rfl, rfl, rfl⟩ | ⟨b, ⟨c, rfl, rfl, rfl⟩ | ⟨c, rfl⟩⟩⟩ <;> rcases H' with ⟨a', rfl, rfl, rfl⟩ | ⟨a', ⟨b', rfl, rfl, rfl⟩ | ⟨b', ⟨c', rfl, rfl, rfl⟩ | ⟨c', rfl⟩⟩⟩
  all_goals first | exact ⟨rfl, rfl, rfl⟩ | exact absurd a a' | exact absurd a' a | exact absurd b b' | exact absurd b' b | skip
  · rw [c] at c'; cases c'
  · rw [c] at c'; cases c'
  · rw [c] at c'
    simp only [Option.some.injEq, Prod.mk.injEq] at c'
    exact ⟨c'.1, c'.2, rfl⟩
theorem pickO_bd {m : Nat} {key : ByteArray} : ∀ {ks : List ByteArray} {l : Ous} {x : Oh} {s : Ous}, OusBd m l → pickO ks l key = some (x, s) → OhBd m x ∧ s.len ≤ m ∧ OusBd m s
  | [], l, x, s, _, h => by simp [pickO] at h
  | k :: ks, .nil, x, s, _, h => by simp [pickO] at h
  | k :: ks, .cons h' s' r, x, s, hb, h => by
    rw [pickO] at h
    split at h
    · simp only [Option.some.injEq, Prod.mk.injEq] at h
      obtain ⟨rfl, rfl⟩ := h
      exact ⟨hb.1, hb.2.1, hb.2.2.1⟩
    · exact pickO_bd hb.2.2.2 h
theorem AtR.bd {h : Oh} {sub : Ous} {key : ByteArray} {x : Oh} {s : Ous} {y : Int} (H : AtR h sub key x s y) (hb : OusBd 1048576 sub) : OhBd 1048576 x ∧ s.len ≤ 1048576 ∧ OusBd 1048576 s := by
  have z : OhBd 1048576 oh0 ∧ Ous.nil.len ≤ 1048576 ∧ OusBd 1048576 .nil := ⟨⟨Nat.zero_le _, Nat.zero_le _, by simp [oh0]⟩, Nat.zero_le _, trivial⟩
  rcases H with ⟨_, rfl, rfl, _⟩ | ⟨_, ⟨_, rfl, rfl, _⟩ | ⟨_, ⟨_, rfl, rfl, _⟩ | ⟨c, _⟩⟩⟩
  · exact z
  · exact z
  · exact z
  · exact pickO_bd hb c
theorem outB_keys {h : Oh} {sub : Ous} (ho : outB 20 h sub = true) (k4 : h.k = 4) : h.keys.length = sub.len := by
  obtain ⟨_, hh, _, _⟩ := outB_all ho
  unfold headB at hh
  rw [k4] at hh
  simp at hh
  exact hh.1.2
def ohV (x : Oh) (s : Ous) (b1 b2 : Option Addr) (d1 d2 : Nat) : Value := .agg #[.int .i64 x.k, .int .i64 x.n, .string x.t, .slice b1 x.keys.length d1, .slice b2 s.len d2]
/-- What the specification tells; what the program tells. -/
def SaysS (w' : World) (p : Oh → Ous → Int → Prop) (e : Ending) : Prop := ∃ x s y b1 d1 b2 d2, e = .returned (.tuple #[ohV x s b1 b2 d1 d2, .int .i64 y]) ∧ p x s y ∧ KeRow 0 w'.heap.size w' b1 x.keys ∧ OuRow 0 w'.heap.size w' b2 s
def SaysI (lo : Nat) (w' : World) (p : Oh → Ous → Int → Prop) (e : Ending) : Prop := ∃ x s y b1 d1 b2 d2, e = .returned (.tuple #[ohV x s b1 b2 d1 d2, .int .i64 y]) ∧ p x s y ∧ PartsO lo w'.heap.size w' b1 b2 x s
theorem SaysS.zero {w' : World} {p : Oh → Ous → Int → Prop} {y : Int} (h : p oh0 .nil y) : SaysS w' p (.returned (.tuple #[.agg #[.int .i64 0, .int .i64 0, .string ⟨#[]⟩, .slice none 0 0, .slice none 0 0], .int .i64 y])) := ⟨oh0, .nil, y, none, 0, none, 0, rfl, h, .inl rfl, .inl rfl⟩
theorem SaysI.zero {lo : Nat} {w' : World} {p : Oh → Ous → Int → Prop} {y : Int} (h : p oh0 .nil y) (hl : lo ≤ w'.heap.size) : SaysI lo w' p (.returned (.tuple #[.agg #[.int .i64 0, .int .i64 0, .string ⟨#[]⟩, .slice none 0 0, .slice none 0 0], .int .i64 y])) := ⟨oh0, .nil, y, none, 0, none, 0, rfl, h, ⟨lo, Nat.le_refl _, hl, .inl rfl, .inl rfl⟩⟩
/-- Where a text first stands. -/
def IdxR (l : List ByteArray) (s : ByteArray) (r : Int) : Prop := (r = -1 ∧ ∀ j (h : j < l.length), (l[j].toList == s.toList) = false) ∨ ∃ i, ∃ h : i < l.length, r = (i : Int) ∧ (l[i].toList == s.toList) = true ∧ ∀ j (h : j < l.length), j < i → (l[j].toList == s.toList) = false
set_option maxHeartbeats 1000000 in
theorem impl_index (a : Option Addr) (c : Nat) (l : List ByteArray) (s : ByteArray) (w : World) (hr : KeRow 0 w.heap.size w a l) (hl : l.length ≤ 1048576) :
    Calls Tryz.prog 38 #[.slice a l.length c, .string s] w fun e w' => w' = w ∧ ∃ r : Int, e = .returned (.int .i64 r) ∧ IdxR l s r := by
  have HR : Hid _ := hr
  clear hr
  go_enter Tryz.func38, Tryz.ntmps38
  go_wp2_with fail
  go_loop [8] (fun i => ∃ (k : Nat), k ≤ l.length ∧ i = .int .i64 k ∧ Hid (∀ j (h : j < l.length), j < k → (l[j].toList == s.toList) = false)) (fun i => l.length - (intOf i).toNat)
  case atStart => exact ⟨0, by omega, rfl, fun j _ h => by omega⟩
  case round =>
    obtain ⟨k, hk, rfl, HA⟩ := hrel
    by_cases hlt : k < l.length
    case neg =>
      have HN : Hid (∀ j (h : j < l.length), (l[j].toList == s.toList) = false) := fun j h => HA.out j h (by omega)
      go_wp2_with fail
      go_ret
      exact ⟨rfl, -1, rfl, .inl ⟨rfl, HN.out⟩⟩
    obtain ⟨b, o, ha, _, hbl, d0⟩ := KeRow.cells HR.out k hlt
    subst ha
    have hlt' : (k : Int) < l.length := by omega
    cases he : (l[k].toList == s.toList) with
    | false =>
      have he' : (s.toList == l[k].toList) = false := by rw [Bool.eq_false_iff] at he ⊢; intro e; apply he; rw [beq_iff_eq] at e ⊢; exact e.symm
      have HN : Hid (∀ j (h : j < l.length), j < k + 1 → (l[j].toList == s.toList) = false) := fun j h h2 => by
        by_cases e : j = k
        · subst e; exact he
        · exact HA.out j h (by omega)
      clear he
      go_wp2_with fail
      go_round
      case rel => exact ⟨k + 1, by omega, by go_num, HN⟩
      case measure => simp [intOf]; omega
    | true =>
      have he' : (s.toList == l[k].toList) = true := by rw [beq_iff_eq] at he ⊢; exact he.symm
      have HE : Hid _ := he
      clear he
      go_wp2_with fail
      go_ret
      exact ⟨rfl, _, rfl, .inr ⟨k, hlt, rfl, HE.out, HA.out⟩⟩
end Go.Proofs.YtoaeggfnlenjkaaGreatDoor.G
namespace Go.Proofs.YtoaeggfnlenjkaaGreatDoor.G
open Go.ChangeShapes Go.WideShapes Go.ChangeAt Go.RowKit
set_option linter.unusedVariables false

set_option maxHeartbeats 8000000 in
set_option maxRecDepth 40000 in
theorem impl_outAt (h : Oh) (sub : Ous) (key : ByteArray) (a1 a2 : Option Addr) (c1 c2 : Nat) (w : World) (r1 : KeRow 0 w.heap.size w a1 h.keys) (hc : h.keys.length ≤ c1) (r2 : OuRow 0 w.heap.size w a2 sub) (hb : OhBd 1048576 h) (hl : sub.len ≤ 1048576) (hs : OusBd 1048576 sub) (hk : key.size ≤ 1048576) :
    Calls Tryz.prog 9 #[.agg #[.int .i64 h.k, .int .i64 h.n, .string h.t, .slice a1 h.keys.length c1, .slice a2 sub.len c2], .string key] w fun e w' => SaysI w.heap.size w' (AtR h sub key) e ∧ Below w.heap.size w w' := by
  obtain ⟨V, hV⟩ : ∃ V, V = (w.alloc (.cells #[.int .i64 h.k, .int .i64 h.n, .string h.t, .slice a1 h.keys.length c1, .slice a2 sub.len c2] 26)).alloc (.cells #[.int .i64 0, .int .i64 0, .string ⟨#[]⟩, .slice none 0 0, .slice none 0 0] 26) := ⟨_, rfl⟩
  have BV : Below w.heap.size w V := by
    rw [hV]
    repeat (first | exact Below.refl _ _ | refine Below.alloc ?_ (by first | omega | (simp <;> omega)) _)
  have e1 : V.heap[w.heap.size + 1]? = some (.cells #[.int .i64 0, .int .i64 0, .string ⟨#[]⟩, .slice none 0 0, .slice none 0 0] 26 (0, 0)) := by
    rw [hV]
    have := heap_alloc_new (w.alloc (.cells #[.int .i64 h.k, .int .i64 h.n, .string h.t, .slice a1 h.keys.length c1, .slice a2 sub.len c2] 26)) (.cells #[.int .i64 0, .int .i64 0, .string ⟨#[]⟩, .slice none 0 0, .slice none 0 0] 26 (0, 0))
    simpa using this
  have e0 : V.heap[w.heap.size]? = some (.cells #[.int .i64 h.k, .int .i64 h.n, .string h.t, .slice a1 h.keys.length c1, .slice a2 sub.len c2] 26 (0, 0)) := by
    rw [hV]
    refine (Below.heap_alloc _ _ _ (by simp)).trans ?_
    exact heap_alloc_new _ _
  have zV : V.heap.size = w.heap.size + 2 := by rw [hV]; simp
  have KV : Hid (∀ W, Below V.heap.size V W → W.heap[w.heap.size]? = some (.cells #[.int .i64 h.k, .int .i64 h.n, .string h.t, .slice a1 h.keys.length c1, .slice a2 sub.len c2] 26 (0, 0)) ∧ W.heap[w.heap.size + 1]? = some (.cells #[.int .i64 0, .int .i64 0, .string ⟨#[]⟩, .slice none 0 0, .slice none 0 0] 26 (0, 0)) ∧ KeRow 0 W.heap.size W a1 h.keys ∧ OuRow 0 W.heap.size W a2 sub ∧ Below w.heap.size w W) := fun W hW =>
    have hb := BV.trans (hW.mono BV.size)
    ⟨(hW.block _ (by omega)).trans e0, (hW.block _ (by omega)).trans e1, KeRow.up r1 hb, OuRow.up r2 hb, hb⟩
  have HB : Hid _ := hb
  have HS : Hid _ := hs
  have HBV : Hid _ := BV
  have x0 := fun o => row_cell e0 o
  have x1 := fun o => row_cell e1 o
  have y1 := fun o => row_frozen e1 o
  clear e0 e1 BV r1 r2 hb hs
  go_enter Tryz.func9, Tryz.ntmps9
  go_upto_region 1 with fail
  rw [← hV]
  clear hV
  by_cases hbig : 65536 < key.size
  · have HN : Hid (AtR h sub key oh0 .nil 2) := .inl ⟨hbig, rfl, rfl, rfl⟩
    go_wp2_with fail
    refine bodyPost_ret (v := .tuple #[.agg #[.int .i64 0, .int .i64 0, .string ⟨#[]⟩, .slice none 0 0, .slice none 0 0], .int .i64 2]) (by simp [results, Tryz.results9, go_sem, x1]) rfl ⟨SaysI.zero HN.out (by simp; omega), ?_⟩
    repeat (refine Below.setCell ?_ (by first | omega | (simp <;> omega)) _)
    exact HBV.out
  have hbig' : ¬ (65536 : Int) < key.size := by omega
  have HKB : Hid (¬ 65536 < key.size) := hbig
  clear hbig
  go_wp2_with fail
  refine (impl_outOK h sub a1 a2 c1 c2 _ (KV.out _ (Below.refl _ _)).2.2.1 hc (KV.out _ (Below.refl _ _)).2.2.2.1 HB.out hl HS.out).mono ?_
  rintro e w1 ⟨rfl, hb1⟩
  have HB1 : Hid _ := hb1
  have z1 := hb1.size
  obtain ⟨q0, q1, q2, q3, q4⟩ := KV.out _ hb1
  have HQ2 : Hid _ := q2
  have HQ3 : Hid _ := q3
  have HQ4 : Hid _ := q4
  have p0 := fun o => row_cell q0 o
  have p1 := fun o => row_cell q1 o
  have f1 := fun o => row_frozen q1 o
  clear hb1 q0 q1 q2 q3 q4 x0 x1 y1
  cases ho : outB 20 h sub
  · have HN : Hid (AtR h sub key oh0 .nil 1) := .inr ⟨HKB.out, .inl ⟨by simp [ho], rfl, rfl, rfl⟩⟩
    clear ho
    go_wp2_with fail
    refine bodyPost_ret (v := .tuple #[.agg #[.int .i64 0, .int .i64 0, .string ⟨#[]⟩, .slice none 0 0, .slice none 0 0], .int .i64 1]) (by simp [results, Tryz.results9, go_sem, p1]) rfl ⟨SaysI.zero HN.out (by simp; omega), ?_⟩
    repeat (refine Below.setCell ?_ (by first | omega | (simp <;> omega)) _)
    exact HQ4.out
  by_cases k4 : h.k = 4
  case neg =>
    have k4' : (h.k != 4) = true := by simp [k4]
    have HN : Hid (AtR h sub key oh0 .nil 1) := .inr ⟨HKB.out, .inl ⟨fun e => k4 e.2, rfl, rfl, rfl⟩⟩
    clear ho k4
    go_wp2_with fail
    refine bodyPost_ret (v := .tuple #[.agg #[.int .i64 0, .int .i64 0, .string ⟨#[]⟩, .slice none 0 0, .slice none 0 0], .int .i64 1]) (by simp [results, Tryz.results9, go_sem, p1]) rfl ⟨SaysI.zero HN.out (by simp; omega), ?_⟩
    repeat (refine Below.setCell ?_ (by first | omega | (simp <;> omega)) _)
    exact HQ4.out
  have k4' : (h.k != 4) = false := by simp [k4]
  have HO : Hid (outB 20 h sub = true ∧ h.k = 4) := ⟨ho, k4⟩
  have HKL : Hid (h.keys.length = sub.len) := outB_keys ho k4
  have hkn : h.keys.length ≤ 1048576 := by have := HKL.out; omega
  clear ho k4
  go_wp2_with fail
  refine (impl_index a1 c1 h.keys key w1 HQ2.out hkn).mono ?_
  rintro e w2 ⟨rfl, r, rfl, hr⟩
  rcases hr with ⟨rfl, hn⟩ | ⟨i, hlt, rfl, he, hn⟩
  · have HN : Hid (AtR h sub key oh0 .nil 5) := .inr ⟨HKB.out, .inr ⟨HO.out, .inl ⟨pickO_none HKL.out hn, rfl, rfl, rfl⟩⟩⟩
    clear hn
    go_wp2_with fail
    refine bodyPost_ret (v := .tuple #[.agg #[.int .i64 0, .int .i64 0, .string ⟨#[]⟩, .slice none 0 0, .slice none 0 0], .int .i64 5]) (by simp [results, Tryz.results9, go_sem, p1]) rfl ⟨SaysI.zero HN.out (by simp; omega), ?_⟩
    repeat (refine Below.setCell ?_ (by first | omega | (simp <;> omega)) _)
    exact HQ4.out
  · have hd0 : (drpO i sub).len = sub.len - i := drpO_len i sub
    have hil : i < sub.len := by have := HKL.out; omega
    cases hd : drpO i sub with
    | nil => rw [hd] at hd0; simp only [Ous.len] at hd0; omega
    | cons h' s' r' =>
      have HN : Hid (AtR h sub key h' s' 0) := .inr ⟨HKB.out, .inr ⟨HO.out, .inr ⟨pickO_hit HKL.out hlt hn he hd, rfl⟩⟩⟩
      have hf := OuFrom.drp i 0 sub (OuRow.from_ HQ3.out)
      rw [hd, Nat.zero_add] at hf
      have hbd := drpO_bd i sub HS.out
      rw [hd] at hbd
      obtain ⟨g1, g2, g3, _⟩ := hbd
      have G1 : Hid _ := g1
      have G3 : Hid _ := g3
      obtain ⟨b, o, a1', c1', a2', c2', ha, _, hbl, d0, d1, d2, d3, d4, hc', p1', p2', _⟩ := OuFrom.step hf
      have RK : Hid (KeRow 0 w2.heap.size w2 a1' h'.keys ∧ OuRow 0 w2.heap.size w2 a2' s') := ⟨p1', p2'⟩
      have hil' : (i : Int) < sub.len := by omega
      subst ha
      clear hf g1 g3 p1' p2' hd hd0 he hn
      go_wp2_with fail
      refine (clone_out h' s' (clone_ous s') a1' a2' c1' c2' w2 RK.out.1 RK.out.2 G1.out g2 G3.out).mono ?_
      rintro e w3 ⟨b1, b2, rfl, hp, hb3⟩
      have z3 := hb3.size
      have t1 := fun o => hb3.cell (p := ⟨w.heap.size + 1, o, none⟩) (show w.heap.size + 1 < w2.heap.size by omega)
      have u1 := fun o => hb3.frozen (p := ⟨w.heap.size + 1, o, none⟩) (show w.heap.size + 1 < w2.heap.size by omega)
      have HP : Hid (PartsO w2.heap.size w3.heap.size w3 b1 b2 h' s') := hp
      have HB3 : Hid (Below w.heap.size w w3) := HQ4.out.trans (hb3.mono (by omega))
      clear hb3 hp d0 d1 d2 d3 d4
      go_wp2_with fail
      refine bodyPost_ret (v := .tuple #[ohV h' s' b1 b2 h'.keys.length s'.len, .int .i64 0]) (by simp [results, Tryz.results9, go_sem, ohV, t1, p1]) rfl ?_
      have G : ∀ W' : World, W'.heap.size = w3.heap.size → Agree w2.heap.size w3.heap.size w3 W' → Below w.heap.size w W' → SaysI w.heap.size W' (AtR h sub key) (.returned (.tuple #[ohV h' s' b1 b2 h'.keys.length s'.len, .int .i64 0])) ∧ Below w.heap.size w W' :=
        fun W' hw ha hB => ⟨⟨_, _, _, _, _, _, _, rfl, HN.out, PartsO.wide (PartsO.keep HP.out ha) (by omega) (by omega)⟩, hB⟩
      refine G _ (by simp) ?_ ?_
      · intro g h1 h2
        repeat rw [heap_set _ _ _ _ _ (by omega)]
      · repeat (refine Below.setCell ?_ (by first | omega | (simp <;> omega)) _)
        exact HB3.out
end Go.Proofs.YtoaeggfnlenjkaaGreatDoor.G
namespace Go.Proofs.YtoaeggfnlenjkaaGreatDoor
open Go.ChangeShapes Go.WideShapes Go.ChangeAt Go.RowKit
set_option linter.unusedVariables false

end Go.Proofs.YtoaeggfnlenjkaaGreatDoor
