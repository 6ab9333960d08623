/- OpOf: the one query or mutation; both sides. -/
import Derived.Test.YtajjaddlalbnmaaDocFrs
import Derived.Test.YtajjaddlalbnmaaDocSpecOK
import Derived.Deep.CutRange
import Derived.Deep.CutBlock
import Derived.Deep.RegionWith
import Derived.Maps.OwnSet
namespace Go.Proofs.Ytajjaddlalbnmaa
open Go.ChangeShapes Go.WideShapes Go.ChangeAt Go.RowKit Go.Maps
set_option linter.unusedVariables false

def opsN : List De → Nat
  | [] => 0
  | x :: l => (if (x.k == 3) = true then 0 else 1) + opsN l
def opL (l : List De) : De := l.foldl (fun acc x => if (x.k == 3) = true then acc else x) de0
theorem opsN_append (a b : List De) : opsN (a ++ b) = opsN a + opsN b := by
  induction a with
  | nil => simp [opsN]
  | cons x a ih => simp only [List.cons_append, opsN, ih]; omega
theorem opsN_take {l : List De} {k : Nat} (hk : k < l.length) : opsN (l.take (k + 1)) = opsN (l.take k) + (if (l[k].k == 3) = true then 0 else 1) := by
  rw [List.take_succ_eq_append_getElem hk, opsN_append]; simp [opsN]
theorem opL_take {l : List De} {k : Nat} (hk : k < l.length) : opL (l.take (k + 1)) = if (l[k].k == 3) = true then opL (l.take k) else l[k] := by
  unfold opL; rw [List.take_succ_eq_append_getElem hk, List.foldl_append]; rfl
theorem opsN_le (l : List De) : opsN l ≤ l.length := by
  induction l with
  | nil => exact Nat.le_refl _
  | cons x l ih => simp only [opsN, List.length_cons]; split <;> omega
theorem opL_mem (l : List De) : opL l = de0 ∨ opL l ∈ l := by
  refine foldl_snoc_ind (P := fun l => opL l = de0 ∨ opL l ∈ l) (.inl rfl) ?_ l
  intro l x ih
  unfold opL at ih ⊢
  rw [List.foldl_append]
  simp only [List.foldl_cons, List.foldl_nil]
  split
  · rcases ih with ih | ih
    · exact .inl ih
    · exact .inr (List.mem_append_left _ ih)
  · exact .inr (List.mem_append_right _ (by simp))
/-- How many fragments have a name that came ahead. -/
theorem short_le (l : List De) : (frsOf l).length + opsN l ≤ l.length := by
  refine foldl_snoc_ind (P := fun l => (frsOf l).length + opsN l ≤ l.length) (by simp [frsOf, opsN]) ?_ l
  intro l x ih
  rw [frs_snoc, opsN_append]
  unfold addFr
  simp only [opsN, List.length_append, List.length_cons, List.length_nil]
  cases h : (x.k == 3)
  · simp; omega
  · simp only [Bool.true_and, if_true]
    split <;> simp <;> omega
theorem short_more (l r : List De) : ∀ (h : (frsOf l).length + opsN l < l.length), (frsOf (l ++ r)).length + opsN (l ++ r) < (l ++ r).length := by
  intro h
  refine foldl_snoc_ind (P := fun r => (frsOf (l ++ r)).length + opsN (l ++ r) < (l ++ r).length) (by simpa using h) ?_ r
  intro r x ih
  rw [← List.append_assoc, frs_snoc, opsN_append]
  unfold addFr
  simp only [opsN, List.length_append, List.length_cons, List.length_nil] at ih ⊢
  cases h : (x.k == 3)
  · simp; omega
  · simp only [Bool.true_and, if_true]
    split <;> simp <;> omega
/-- A fragment whose name came ahead makes it short. -/
theorem short_at {l : List De} {k : Nat} (hk : k < l.length) (h3 : (l[k].k == 3) = true) (hf : (l.take k).any (isFr l[k].nm) = true) : (frsOf l).length + opsN l < l.length := by
  have h1 : (frsOf (l.take (k + 1))).length + opsN (l.take (k + 1)) < (l.take (k + 1)).length := by
    have h2 := short_le (l.take k)
    rw [frs_take hk, opsN_take hk]
    unfold addFr
    rw [frs_any, hf, h3]
    simp only [Bool.not_true, Bool.and_false, if_true, List.length_take] at h2 ⊢
    simp; omega
  have := short_more (l.take (k + 1)) (l.drop (k + 1)) h1
  rwa [List.take_append_drop] at this
/-- .. and else it is not. -/
theorem full_next {l : List De} {k : Nat} (hk : k < l.length) (h : (frsOf (l.take k)).length + opsN (l.take k) = k) (hf : (l[k].k == 3) = false ∨ (l.take k).any (isFr l[k].nm) = false) : (frsOf (l.take (k + 1))).length + opsN (l.take (k + 1)) = k + 1 := by
  rw [frs_take hk, opsN_take hk]
  unfold addFr
  rcases hf with hf | hf
  · rw [hf]; simp; omega
  · rw [frs_any, hf]
    cases h3 : (l[k].k == 3)
    · simp; omega
    · simp; omega
/-- What OpOf tells. -/
def OpR (l : List De) (x : De) (y : Int) : Prop :=
  (docB l = false ∧ x = de0 ∧ y = 1) ∨ (docB l = true ∧ (((frsOf l).length + opsN l < l.length ∧ x = de0 ∧ y = 19) ∨ (¬ (frsOf l).length + opsN l < l.length ∧ ((opsN l = 0 ∧ x = de0 ∧ y = 5) ∨ (1 < opsN l ∧ x = de0 ∧ y = 6) ∨ (opsN l = 1 ∧ x = opL l ∧ y = 0)))))
theorem OpR.one {l : List De} {x x' : De} {y y' : Int} (h : OpR l x y) (h' : OpR l x' y') : x = x' ∧ y = y' := by
  rcases h with ⟨a1, rfl, rfl⟩ | ⟨a1, ⟨a2, rfl, rfl⟩ | ⟨a2, ⟨a3, rfl, rfl⟩ | ⟨a3, rfl, rfl⟩ | ⟨a3, rfl, rfl⟩⟩⟩ <;> rcases h' with ⟨b1, rfl, rfl⟩ | ⟨b1, ⟨b2, rfl, rfl⟩ | ⟨b2, ⟨b3, rfl, rfl⟩ | ⟨b3, rfl, rfl⟩ | ⟨b3, rfl, rfl⟩⟩⟩ <;>
    first
      | exact ⟨rfl, rfl⟩
      | (exfalso; rw [a1] at b1; exact Bool.noConfusion b1)
      | (exfalso; omega)
theorem de0_bd : DeBd 1048576 de0 := ⟨Nat.zero_le _, Nat.zero_le _, Nat.zero_le _, trivial⟩
theorem OpR.bd {l : List De} {x : De} {y : Int} (h : OpR l x y) (hb : DefsBd 1048576 l) : DeBd 1048576 x := by
  rcases h with ⟨a1, rfl, rfl⟩ | ⟨a1, ⟨a2, rfl, rfl⟩ | ⟨a2, ⟨a3, rfl, rfl⟩ | ⟨a3, rfl, rfl⟩ | ⟨a3, rfl, rfl⟩⟩⟩
  · exact de0_bd
  · exact de0_bd
  · exact de0_bd
  · exact de0_bd
  · rcases opL_mem l with h | h
    · rw [h]; exact de0_bd
    · exact hb.2 _ h
/-- What opPlace tells. -/
def PlR (l : List De) (p y : Int) : Prop := ((frsOf l).length + opsN l < l.length ∧ p = 0 ∧ y = 19) ∨ (¬ (frsOf l).length + opsN l < l.length ∧ ((opsN l = 0 ∧ p = 0 ∧ y = 5) ∨ (1 < opsN l ∧ p = 0 ∧ y = 6) ∨ (opsN l = 1 ∧ y = 0 ∧ ∃ j, ∃ h : j < l.length, p = j ∧ l[j] = opL l)))

set_option maxHeartbeats 4000000 in
set_option maxRecDepth 40000 in
theorem op_place (a : Option Addr) (c : Nat) (l : List De) (w : World) (hr : DeRow 0 w.heap.size w a l) (hb : DefsBd 1048576 l) :
    Calls Try.prog 22 #[.agg #[.slice a l.length c]] w fun e w' => ∃ p y, e = .returned (.tuple #[.int .i64 p, .int .i64 y]) ∧ PlR l p y ∧ Below w.heap.size w w' := by
  have HR : Hid (DeRow 0 w.heap.size w a l) := hr
  have HB : Hid (DefsBd 1048576 l) := hb
  have hl : l.length ≤ 1048576 := hb.1
  clear hr hb
  go_enter Try.func22, Try.ntmps22
  go_wp2_with fail
  obtain ⟨W, hW⟩ : ∃ W, W = w.alloc (.cells #[.slice a l.length c] 25) := ⟨_, rfl⟩
  rw [← hW]
  have B0 : Below w.heap.size w W := by rw [hW]; exact (Below.refl _ _).alloc (Nat.le_refl _) _
  have zW : W.heap.size = w.heap.size + 1 := by rw [hW]; simp
  have kW : W.cell? ⟨w.heap.size, 0, none⟩ = some (.slice a l.length c) := by rw [hW]; exact row_cell (heap_alloc_new _ _) 0
  clear hW
  go_loopw [4, 5, 11] (fun p n i w' => ∃ (k q m : Nat), k ≤ l.length ∧ i = .int .i64 k ∧ p = .int .i64 (q : Int) ∧ n = .int .i64 (m : Int) ∧ m ≤ k ∧ Hid (m = opsN (l.take k)) ∧ Hid ((m = 0 ∧ q = 0) ∨ ∃ h : q < l.length, l[q] = opL (l.take k)) ∧ Below W.heap.size W w') (fun _ _ i _ => l.length - (intOf i).toNat)
  case atStart => exact ⟨0, 0, 0, by omega, rfl, rfl, rfl, by omega, rfl, .inl ⟨rfl, rfl⟩, Below.refl _ _⟩
  case round =>
    obtain ⟨k, q, m, hk, rfl, rfl, rfl, hmk, HM, HQ, hbw⟩ := hrel
    have hbz := hbw.size
    have Qr : Hid (Below w.heap.size w wr) := B0.trans (hbw.mono (by omega))
    by_cases hlt : k < l.length
    case neg =>
      obtain rfl : k = l.length := by omega
      have hM := HM.out
      rw [List.take_length] at hM
      have HQ' := HQ.out
      rw [List.take_length] at HQ'
      have HQ2 : Hid _ := HQ'
      have HM9 : Hid (m = opsN l) := hM
      have hm9 : m ≤ 1048576 := by omega
      clear HQ' HQ HM hM
      have ks : wr.cell? ⟨w.heap.size, 0, none⟩ = some (.slice a l.length c) := (hbw.cell (p := ⟨w.heap.size, 0, none⟩) (show w.heap.size < W.heap.size by omega)).trans kW
      go_wp2_with fail
      go_cut [23] from 23 to 32 (fun u wx => u = .bool (decide ((((frsOf l).length : Nat) : Int) + (m : Int) < (l.length : Int))) ∧ Below wr.heap.size wr wx)
      case first =>
        go_region_with (
          (go_at_call 35
           refine (frs_of a c l _ (DeRow.up HR.out Qr.out.drew) HB.out).mono ?_
           rintro e w1 ⟨B, rfl, hB, hF, hb1⟩
           have p1 : Hid (Below wr.heap.size wr w1) := (Below.refl _ _).drew.trans (hb1.mono (Nat.le_refl _))
           have k1 : w1.cell? ⟨w.heap.size, 0, none⟩ = some (.slice a l.length c) := (hb1.cell (p := ⟨w.heap.size, 0, none⟩) (show w.heap.size < wr.heap.size by omega)).trans ks
           obtain ⟨D, n, hown, hn1, hn2, hn3, hn4⟩ := hF
           have hlen := fun ty => hown.len (t := 70) Try.underlying70 ty
           rw [hn2] at hlen
           have hfl := frs_len l
           clear hown hn1 hn2 hn3 hn4 hb1))
        all_goals (try go_wp2_with fail)
        all_goals go_meet
        all_goals exact ⟨by rw [wrap_small (((frsOf l).length : Int) + (m : Int)) (by omega) (by omega)], p1.out⟩
      obtain ⟨rfl, hb7⟩ := hcut
      have Q7 : Hid (Below w.heap.size w wc) := Qr.out.trans (hb7.mono (by omega))
      clear hb7 ks
      by_cases hsh : (frsOf l).length + m < l.length
      · have HN : Hid (PlR l 0 19) := .inl ⟨by rw [← HM9.out]; exact hsh, rfl, rfl⟩
        have hd : decide ((((frsOf l).length : Nat) : Int) + (m : Int) < (l.length : Int)) = true := by simp; omega
        rw [hd]
        go_wp2_with fail
        go_ret2
        exact ⟨_, _, rfl, HN.out, Q7.out⟩
      have hd : decide ((((frsOf l).length : Nat) : Int) + (m : Int) < (l.length : Int)) = false := by simp; omega
      rw [hd]
      clear hd
      by_cases h0 : m = 0
      · have HN : Hid (PlR l 0 5) := .inr ⟨by rw [← HM9.out]; exact hsh, .inl ⟨by rw [← HM9.out]; exact h0, rfl, rfl⟩⟩
        subst h0
        go_wp2_with fail
        go_ret2
        exact ⟨_, _, rfl, HN.out, Q7.out⟩
      have h0' : ((m : Int) == 0) = false := by simp; omega
      by_cases h1 : 1 < m
      · have HN : Hid (PlR l 0 6) := .inr ⟨by rw [← HM9.out]; exact hsh, .inr (.inl ⟨by rw [← HM9.out]; exact h1, rfl, rfl⟩)⟩
        go_wp2_with fail
        go_ret2
        exact ⟨_, _, rfl, HN.out, Q7.out⟩
      have HN : Hid (PlR l q 0) := by
        rcases HQ2.out with ⟨h, _⟩ | ⟨h, hh⟩
        · exact absurd h h0
        · exact .inr ⟨by rw [← HM9.out]; exact hsh, .inr (.inr ⟨by rw [← HM9.out]; omega, rfl, q, h, rfl, hh⟩)⟩
      go_wp2_with fail
      go_ret2
      exact ⟨_, _, rfl, HN.out, Q7.out⟩
    obtain ⟨b, o, a3, c3, ha, _, hbl, d0, d1, d2, d3, r3⟩ := DeRow.cells (DeRow.up HR.out Qr.out) k hlt
    subst ha
    clear r3
    have hM := opsN_take hlt
    have hQ := opL_take hlt
    cases h3 : (l[k].k == 3) with
    | false =>
      rw [h3] at hM hQ
      have HM2 : Hid (m + 1 = opsN (l.take (k + 1))) := by have := HM.out; rw [Hid, hM, ← this]; rfl
      have HQ2 : Hid ((m + 1 = 0 ∧ k = 0) ∨ ∃ h : k < l.length, l[k] = opL (l.take (k + 1))) := .inr ⟨hlt, by rw [hQ]; rfl⟩
      have HBW : Hid _ := hbw
      clear hM hQ HM HQ hbw
      go_wp2_with fail
      exact ⟨⟨k + 1, k, m + 1, by omega, by go_num, rfl, by go_num, by omega, HM2, HQ2, HBW.out.alloc (by omega) _⟩, by simp [intOf]; omega⟩
    | true =>
      rw [h3] at hM hQ
      have HM2 : Hid (m = opsN (l.take (k + 1))) := by have := HM.out; rw [Hid, hM, ← this]; rfl
      have HQ2 : Hid ((m = 0 ∧ q = 0) ∨ ∃ h : q < l.length, l[q] = opL (l.take (k + 1))) := by rw [Hid, hQ]; exact HQ.out
      have HBW : Hid _ := hbw
      clear hM hQ HM HQ hbw
      go_wp2_with fail
      exact ⟨⟨k + 1, q, m, by omega, by go_num, rfl, rfl, by omega, HM2, HQ2, HBW.out.alloc (by omega) _⟩, by simp [intOf]; omega⟩
end Go.Proofs.Ytajjaddlalbnmaa
