/- A value's item by its name: what it is, and both sides of OutAt. -/
import Derived.Test.YtlliimlhdpbgdaaGreatDoorOuToOwn
import Derived.Test.YtlliimlhdpbgdaaGreatDoorOuClone
import Derived.Test.YtlliimlhdpbgdaaGreatDoorOuTakes
import Derived.Test.YtlliimlhdpbgdaaGreatDoorOuSpec
namespace Go.Proofs.YtlliimlhdpbgdaaGreatDoor.G
open Go.ChangeShapes Go.WideShapes Go.ChangeAt Go.RowKit
set_option linter.unusedVariables false

def oh0 : Oh := ⟨0, 0, ⟨#[]⟩, []⟩
def pickO : List ByteArray → Ous → ByteArray → Option (Oh × Ous)
  | k :: ks, .cons h s r, key => if (k.toList == key.toList) = true then some (h, s) else pickO ks r key
  | [], _, _ => none
  | _ :: _, .nil, _ => none
def drpO : Nat → Ous → Ous
  | 0, l => l
  | _ + 1, .nil => .nil
  | k + 1, .cons _ _ r => drpO k r
theorem drpO_len : ∀ (k : Nat) (l : Ous), (drpO k l).len = l.len - k
  | 0, l => by simp [drpO]
  | k + 1, .nil => by simp [drpO, Ous.len]
  | k + 1, .cons _ _ r => by simp [drpO, Ous.len, drpO_len k r]
theorem drpO_next : ∀ (k : Nat) (l : Ous) {h : Oh} {s r : Ous}, drpO k l = .cons h s r → drpO (k + 1) l = r
  | 0, l, h, s, r, e => by simp only [drpO] at e; rw [e]; rfl
  | k + 1, .nil, h, s, r, e => by simp [drpO] at e
  | k + 1, .cons _ _ r', h, s, r, e => by simp only [drpO] at e ⊢; exact drpO_next k r' e
theorem drpO_bd {m : Nat} : ∀ (k : Nat) (l : Ous), OusBd m l → OusBd m (drpO k l)
  | 0, l, h => h
  | k + 1, .nil, h => h
  | k + 1, .cons _ _ r, h => drpO_bd k r h.2.2.2
theorem pickO_drop {key : ByteArray} : ∀ (i : Nat) (ks : List ByteArray) (l : Ous), ks.length = l.len → (∀ j (h : j < ks.length), j < i → (ks[j].toList == key.toList) = false) → i ≤ ks.length → pickO ks l key = pickO (ks.drop i) (drpO i l) key
  | 0, ks, l, _, _, _ => by simp [drpO]
  | i + 1, [], l, _, _, h => by simp at h
  | i + 1, k :: ks, .nil, hl, _, _ => by simp [Ous.len] at hl
  | i + 1, k :: ks, .cons h s r, hl, hn, hi => by
    have h0 : (k.toList == key.toList) = false := hn 0 (by simp) (by omega)
    have := pickO_drop (key := key) i ks r (by simp [Ous.len] at hl; exact hl) (fun j h1 h2 => by have := hn (j + 1) (by simp; omega) (by omega); simpa using this) (by simp at hi; omega)
    rw [pickO, h0]
    simpa [drpO] using this
theorem pickO_none {key : ByteArray} {ks : List ByteArray} {l : Ous} (hl : ks.length = l.len) (hn : ∀ j (h : j < ks.length), (ks[j].toList == key.toList) = false) : pickO ks l key = none := by
  rw [pickO_drop ks.length ks l hl (fun j h _ => hn j h) (Nat.le_refl _), List.drop_length]; rfl
theorem pickO_hit {key : ByteArray} {ks : List ByteArray} {l : Ous} (hl : ks.length = l.len) {i : Nat} (hi : i < ks.length) (hn : ∀ j (h : j < ks.length), j < i → (ks[j].toList == key.toList) = false) (he : (ks[i].toList == key.toList) = true) {h : Oh} {s r : Ous} (hd : drpO i l = .cons h s r) : pickO ks l key = some (h, s) := by
  rw [pickO_drop i ks l hl hn (by omega), List.drop_eq_getElem_cons hi, hd, pickO, if_pos he]
theorem OuFrom.drp {lo hi : Nat} {w : World} {a : Option Addr} : ∀ (i k : Nat) (l : Ous), OuFrom lo hi w a k l → OuFrom lo hi w a (k + i) (drpO i l)
  | 0, k, l, h => h
  | i + 1, k, .nil, h => .inl rfl
  | i + 1, k, .cons h' s r, h => by
    obtain ⟨_, _, _, _, _, _, _, _, _, _, _, _, _, _, _, _, _, rf⟩ := OuFrom.step h
    have := OuFrom.drp i (k + 1) r rf
    rw [show k + (i + 1) = k + 1 + i by omega]
    exact this
def AtR (h : Oh) (sub : Ous) (key : ByteArray) (x : Oh) (s : Ous) (y : Int) : Prop :=
  (65536 < key.size ∧ x = oh0 ∧ s = .nil ∧ y = 2) ∨ (¬ 65536 < key.size ∧ ((¬ (outB 20 h sub = true ∧ h.k = 4) ∧ x = oh0 ∧ s = .nil ∧ y = 1) ∨ ((outB 20 h sub = true ∧ h.k = 4) ∧ ((pickO h.keys sub key = none ∧ x = oh0 ∧ s = .nil ∧ y = 5) ∨ (pickO h.keys sub key = some (x, s) ∧ y = 0)))))
theorem AtR.one {h : Oh} {sub : Ous} {key : ByteArray} {x x' : Oh} {s s' : Ous} {y y' : Int} (H : AtR h sub key x s y) (H' : AtR h sub key x' s' y') : x = x' ∧ s = s' ∧ y = y' := by
  rcases H with ⟨a, rfl, rfl, rfl⟩ | ⟨a, ⟨b, rfl, rfl, rfl⟩ | ⟨b, ⟨c, rfl, rfl, rfl⟩ | ⟨c, rfl⟩⟩⟩ <;> rcases H' with ⟨a', rfl, rfl, rfl⟩ | ⟨a', ⟨b', rfl, rfl, rfl⟩ | ⟨b', ⟨c', rfl, rfl, rfl⟩ | ⟨c', rfl⟩⟩⟩
  all_goals first | exact ⟨rfl, rfl, rfl⟩ | exact absurd a a' | exact absurd a' a | exact absurd b b' | exact absurd b' b | skip
  · rw [c] at c'; cases c'
  · rw [c] at c'; cases c'
  · rw [c] at c'
    simp only [Option.some.injEq, Prod.mk.injEq] at c'
    exact ⟨c'.1, c'.2, rfl⟩
theorem pickO_bd {m : Nat} {key : ByteArray} : ∀ {ks : List ByteArray} {l : Ous} {x : Oh} {s : Ous}, OusBd m l → pickO ks l key = some (x, s) → OhBd m x ∧ s.len ≤ m ∧ OusBd m s
  | [], l, x, s, _, h => by simp [pickO] at h
  | k :: ks, .nil, x, s, _, h => by simp [pickO] at h
  | k :: ks, .cons h' s' r, x, s, hb, h => by
    rw [pickO] at h
    split at h
    · simp only [Option.some.injEq, Prod.mk.injEq] at h
      obtain ⟨rfl, rfl⟩ := h
      exact ⟨hb.1, hb.2.1, hb.2.2.1⟩
    · exact pickO_bd hb.2.2.2 h
theorem AtR.bd {h : Oh} {sub : Ous} {key : ByteArray} {x : Oh} {s : Ous} {y : Int} (H : AtR h sub key x s y) (hb : OusBd 1048576 sub) : OhBd 1048576 x ∧ s.len ≤ 1048576 ∧ OusBd 1048576 s := by
  have z : OhBd 1048576 oh0 ∧ Ous.nil.len ≤ 1048576 ∧ OusBd 1048576 .nil := ⟨⟨Nat.zero_le _, Nat.zero_le _, by simp [oh0]⟩, Nat.zero_le _, trivial⟩
  rcases H with ⟨_, rfl, rfl, _⟩ | ⟨_, ⟨_, rfl, rfl, _⟩ | ⟨_, ⟨_, rfl, rfl, _⟩ | ⟨c, _⟩⟩⟩
  · exact z
  · exact z
  · exact z
  · exact pickO_bd hb c
theorem outB_keys {h : Oh} {sub : Ous} (ho : outB 20 h sub = true) (k4 : h.k = 4) : h.keys.length = sub.len := by
  obtain ⟨_, hh, _, _⟩ := outB_all ho
  unfold headB at hh
  rw [k4] at hh
  simp at hh
  exact hh.1.2
def ohV (x : Oh) (s : Ous) (b1 b2 : Option Addr) (d1 d2 : Nat) : Value := .agg #[.int .i64 x.k, .int .i64 x.n, .string x.t, .slice b1 x.keys.length d1, .slice b2 s.len d2]
/-- What the specification tells; what the program tells. -/
def SaysS (w' : World) (p : Oh → Ous → Int → Prop) (e : Ending) : Prop := ∃ x s y b1 d1 b2 d2, e = .returned (.tuple #[ohV x s b1 b2 d1 d2, .int .i64 y]) ∧ p x s y ∧ KeRow 0 w'.heap.size w' b1 x.keys ∧ OuRow 0 w'.heap.size w' b2 s
def SaysI (lo : Nat) (w' : World) (p : Oh → Ous → Int → Prop) (e : Ending) : Prop := ∃ x s y b1 d1 b2 d2, e = .returned (.tuple #[ohV x s b1 b2 d1 d2, .int .i64 y]) ∧ p x s y ∧ PartsO lo w'.heap.size w' b1 b2 x s
theorem SaysS.zero {w' : World} {p : Oh → Ous → Int → Prop} {y : Int} (h : p oh0 .nil y) : SaysS w' p (.returned (.tuple #[.agg #[.int .i64 0, .int .i64 0, .string ⟨#[]⟩, .slice none 0 0, .slice none 0 0], .int .i64 y])) := ⟨oh0, .nil, y, none, 0, none, 0, rfl, h, .inl rfl, .inl rfl⟩
theorem SaysI.zero {lo : Nat} {w' : World} {p : Oh → Ous → Int → Prop} {y : Int} (h : p oh0 .nil y) (hl : lo ≤ w'.heap.size) : SaysI lo w' p (.returned (.tuple #[.agg #[.int .i64 0, .int .i64 0, .string ⟨#[]⟩, .slice none 0 0, .slice none 0 0], .int .i64 y])) := ⟨oh0, .nil, y, none, 0, none, 0, rfl, h, ⟨lo, Nat.le_refl _, hl, .inl rfl, .inl rfl⟩⟩
/-- Where a text first stands. -/
def IdxR (l : List ByteArray) (s : ByteArray) (r : Int) : Prop := (r = -1 ∧ ∀ j (h : j < l.length), (l[j].toList == s.toList) = false) ∨ ∃ i, ∃ h : i < l.length, r = (i : Int) ∧ (l[i].toList == s.toList) = true ∧ ∀ j (h : j < l.length), j < i → (l[j].toList == s.toList) = false
set_option maxHeartbeats 1000000 in
theorem impl_index (a : Option Addr) (c : Nat) (l : List ByteArray) (s : ByteArray) (w : World) (hr : KeRow 0 w.heap.size w a l) (hl : l.length ≤ 1048576) :
    Calls Tryz.prog 22 #[.slice a l.length c, .string s] w fun e w' => w' = w ∧ ∃ r : Int, e = .returned (.int .i64 r) ∧ IdxR l s r := by
  have HR : Hid _ := hr
  clear hr
  go_enter Tryz.func22, Tryz.ntmps22
  go_wp2_with fail
  go_loop [8] (fun i => ∃ (k : Nat), k ≤ l.length ∧ i = .int .i64 k ∧ Hid (∀ j (h : j < l.length), j < k → (l[j].toList == s.toList) = false)) (fun i => l.length - (intOf i).toNat)
  case atStart => exact ⟨0, by omega, rfl, fun j _ h => by omega⟩
  case round =>
    obtain ⟨k, hk, rfl, HA⟩ := hrel
    by_cases hlt : k < l.length
    case neg =>
      have HN : Hid (∀ j (h : j < l.length), (l[j].toList == s.toList) = false) := fun j h => HA.out j h (by omega)
      go_wp2_with fail
      go_ret
      exact ⟨rfl, -1, rfl, .inl ⟨rfl, HN.out⟩⟩
    obtain ⟨b, o, ha, _, hbl, d0⟩ := KeRow.cells HR.out k hlt
    subst ha
    have hlt' : (k : Int) < l.length := by omega
    cases he : (l[k].toList == s.toList) with
    | false =>
      have he' : (s.toList == l[k].toList) = false := by rw [Bool.eq_false_iff] at he ⊢; intro e; apply he; rw [beq_iff_eq] at e ⊢; exact e.symm
      have HN : Hid (∀ j (h : j < l.length), j < k + 1 → (l[j].toList == s.toList) = false) := fun j h h2 => by
        by_cases e : j = k
        · subst e; exact he
        · exact HA.out j h (by omega)
      clear he
      go_wp2_with fail
      go_round
      case rel => exact ⟨k + 1, by omega, by go_num, HN⟩
      case measure => simp [intOf]; omega
    | true =>
      have he' : (s.toList == l[k].toList) = true := by rw [beq_iff_eq] at he ⊢; exact he.symm
      have HE : Hid _ := he
      clear he
      go_wp2_with fail
      go_ret
      exact ⟨rfl, _, rfl, .inr ⟨k, hlt, rfl, HE.out, HA.out⟩⟩
end Go.Proofs.YtlliimlhdpbgdaaGreatDoor.G
