/- A fragment found by its name: what it is; the specification's finding. -/
import Derived.Test.YtajjaddlalbnmaaDocTo
namespace Go.Proofs.Ytajjaddlalbnmaa
open Go.ChangeShapes Go.WideShapes Go.ChangeAt Go.RowKit
set_option linter.unusedVariables false

def de0 : De := ⟨0, ⟨#[]⟩, ⟨#[]⟩, .nil⟩
def deV (x : De) (a : Option Addr) (c : Nat) : Value := .agg #[.int .i64 x.k, .string x.nm, .string x.on, .slice a x.sels.len c]
def isFr (s : ByteArray) (x : De) : Bool := (x.k == 3) && (x.nm.toList == s.toList)
theorem find_at {p : De → Bool} : ∀ {l : List De} {k : Nat} (hk : k < l.length), (∀ x ∈ l.take k, p x = false) → p l[k] = true → l.find? p = some l[k]
  | [], k, hk, _, _ => by simp at hk
  | x :: l, 0, hk, _, h => by
    have h : p x = true := h
    simp [h]
  | x :: l, k + 1, hk, ha, h => by
    have hx : p x = false := ha x (by simp)
    have := find_at (l := l) (k := k) (by simpa using hk) (fun y hy => ha y (by simp [hy])) (by simpa using h)
    simp [hx, this]
theorem find_no {p : De → Bool} {l : List De} (h : ∀ x ∈ l, p x = false) : l.find? p = none := by
  rw [List.find?_eq_none]
  intro x hx; rw [h x hx]; simp
theorem isFr_take {s : ByteArray} {l : List De} {k : Nat} (hk : k < l.length) (h : ∀ x ∈ l.take k, isFr s x = false) (h2 : isFr s l[k] = false) : ∀ x ∈ l.take (k + 1), isFr s x = false := by
  rw [List.take_succ_eq_append_getElem hk]
  intro x hx
  rcases List.mem_append.1 hx with hx | hx
  · exact h x hx
  · simp only [List.mem_singleton] at hx; subst hx; exact h2

set_option maxHeartbeats 4000000 in
set_option maxRecDepth 40000 in
theorem spec_fragment (a : Option Addr) (c : Nat) (l : List De) (s : ByteArray) (w : World) (hr : DeRow 0 w.heap.size w a l) (hl : l.length ≤ 1048576) :
    Calls Try.prog 38 #[.agg #[.slice a l.length c], .string s] w fun e w' => ((l.find? (isFr s) = none ∧ e = .returned (.tuple #[.agg #[.int .i64 0, .string ⟨#[]⟩, .string ⟨#[]⟩, .slice none 0 0], .bool false])) ∨ ∃ x a3 c3, l.find? (isFr s) = some x ∧ e = .returned (.tuple #[deV x a3 c3, .bool true]) ∧ SelRow 0 w.heap.size w a3 x.sels) ∧ Below w.heap.size w w' := by
  have HR : Hid (DeRow 0 w.heap.size w a l) := hr
  clear hr
  go_enter Try.func38, Try.ntmps38
  go_wp2_with fail
  obtain ⟨W, hW⟩ : ∃ W, W = (w.alloc (.cells #[.slice a l.length c] 25)).alloc (.cells #[.int .i64 0, .string ⟨#[]⟩, .string ⟨#[]⟩, .slice none 0 0] 30) := ⟨_, rfl⟩
  rw [← hW]
  have B0 : Below w.heap.size w W := by rw [hW]; exact ((Below.refl _ _).alloc (Nat.le_refl _) _).alloc (by simp) _
  have zW : W.heap.size = w.heap.size + 2 := by rw [hW]; simp
  have kW : ∀ o, W.cell? ⟨w.heap.size, o, none⟩ = (#[.slice a l.length c] : Array Value)[o]? := fun o => by
    rw [hW]
    refine (((Below.refl _ _).alloc (Nat.le_refl _) _).cell (p := ⟨w.heap.size, o, none⟩) (by simp)).trans (row_cell (heap_alloc_new _ _) o)
  have HJ : Hid (W.heap[w.heap.size + 1]? = some (.cells #[.int .i64 0, .string ⟨#[]⟩, .string ⟨#[]⟩, .slice none 0 0] 30 (0, 0))) := by
    unfold Hid
    rw [hW]
    have := heap_alloc_new (w.alloc (.cells #[.slice a l.length c] 25)) (.cells #[.int .i64 0, .string ⟨#[]⟩, .string ⟨#[]⟩, .slice none 0 0] 30)
    simpa using this
  clear hW
  go_loopw [6] (fun i w' => ∃ (k : Nat), k ≤ l.length ∧ i = .int .i64 k ∧ Below W.heap.size W w' ∧ Hid (∀ x ∈ l.take k, isFr s x = false)) (fun i _ => l.length - (intOf i).toNat)
  case atStart => exact ⟨0, by omega, rfl, Below.refl _ _, by simp [Hid]⟩
  case round =>
    obtain ⟨k, hk, rfl, hbw, HA⟩ := hrel
    have hbz := hbw.size
    have ks : wr.cell? ⟨w.heap.size, 0, none⟩ = some (.slice a l.length c) := (hbw.cell (p := ⟨w.heap.size, 0, none⟩) (show w.heap.size < W.heap.size by omega)).trans (kW 0)
    have HJr : Hid (wr.heap[w.heap.size + 1]? = _) := (hbw.block _ (by omega)).trans HJ.out
    have kr := fun o => row_cell HJr.out o
    have jr := fun o => row_frozen HJr.out o
    have Qr : Hid (Below w.heap.size w wr) := B0.trans (hbw.mono (by omega))
    have HBW : Hid _ := hbw
    by_cases hlt : k < l.length
    case neg =>
      have HN : Hid (l.find? (isFr s) = none) := find_no (by have := HA.out; rwa [List.take_of_length_le (by omega)] at this)
      clear hbw
      go_wp2_with fail
      refine bodyPost_ret (v := .tuple #[.agg #[.int .i64 0, .string ⟨#[]⟩, .string ⟨#[]⟩, .slice none 0 0], .bool false]) (by simp [results, Try.results38, go_sem, kr]) rfl ⟨.inl ⟨HN.out, rfl⟩, ?_⟩
      repeat (first | exact Qr.out | refine Below.setCell ?_ (by first | omega | (simp <;> omega)) _ | refine Below.alloc ?_ (by first | omega | (simp <;> omega)) _)
    obtain ⟨b, o, a3, c3, ha, _, hbl, d0, d1, d2, d3, r3⟩ := DeRow.cells (HR.out.keep (Below.agree Qr.out (Nat.le_refl _))) k hlt
    subst ha
    obtain ⟨b', o', a3', c3', ha, _, _, _, _, _, d3', r3'⟩ := DeRow.cells HR.out k hlt
    simp only [Option.some.injEq, Addr.mk.injEq, and_true] at ha
    obtain ⟨rfl, rfl⟩ := ha
    have e3 : a3' = a3 := by
      have := (Qr.out.cell (p := ⟨b, o + k * 4 + 3, none⟩) hbl).symm.trans d3
      rw [d3'] at this
      simp only [Option.some.injEq, Value.slice.injEq] at this
      exact this.1
    subst e3
    have R3 : Hid (SelRow 0 w.heap.size w a3' l[k].sels) := r3'
    clear r3 hbw r3' d3'
    cases h3 : (l[k].k == 3) with
    | false =>
      have HF : Hid (isFr s l[k] = false) := by unfold Hid isFr; rw [h3]; rfl
      go_wp2_with fail
      exact ⟨⟨k + 1, by omega, by go_num, HBW.out, isFr_take hlt HA.out HF.out⟩, by simp [intOf]; omega⟩
    | true =>
    cases h4 : (l[k].nm.toList == s.toList) with
    | false =>
      have HF : Hid (isFr s l[k] = false) := by unfold Hid isFr; rw [h3, h4]; rfl
      go_wp2_with fail
      exact ⟨⟨k + 1, by omega, by go_num, HBW.out, isFr_take hlt HA.out HF.out⟩, by simp [intOf]; omega⟩
    | true =>
    have HF : Hid (l.find? (isFr s) = some l[k]) := find_at hlt HA.out (by unfold isFr; rw [h3, h4]; rfl)
    go_wp2_with fail
    refine bodyPost_ret (v := .tuple #[deV l[k] a3' c3, .bool true]) (by simp [results, Try.results38, go_sem, kr, deV]) rfl ⟨.inr ⟨_, _, _, HF.out, rfl, R3.out⟩, ?_⟩
    repeat (first | exact Qr.out | refine Below.setCell ?_ (by first | omega | (simp <;> omega)) _ | refine Below.alloc ?_ (by first | omega | (simp <;> omega)) _)

end Go.Proofs.Ytajjaddlalbnmaa
