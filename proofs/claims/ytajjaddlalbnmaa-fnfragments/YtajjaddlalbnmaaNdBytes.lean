/- A slice of bytes that came in, opened. -/
import Derived.Test.YtajjaddlalbnmaaNdSrc
import Derived.Deep.Slices
namespace Go.Proofs.Ytajjaddlalbnmaa
open Go.ChangeShapes Go.WideShapes Go.ChangeAt Go.RowKit
set_option linter.unusedVariables false

theorem byte_range {n : Int} (h : (Lit.int .u8 n).wf = true) : 0 ≤ n ∧ n < 256 := by
  have h1 : IntKind.u8.min = 0 := rfl
  have h2 : IntKind.u8.max = 255 := rfl
  simp only [Lit.wf, h1, h2, Bool.and_eq_true, decide_eq_true_eq] at h
  omega
theorem byte_cell_lt {W : World} {a : Addr} {v : Value} (h : W.cell? a = some v) : a.block < W.heap.size := by
  refine Nat.lt_of_not_le fun hle => ?_
  simp [World.cell?, Array.getElem?_eq_none hle] at h
theorem bytes_open {H : Type} {enc : TypeId × Value → H} {W : World} {fuel : Nat} {a0 : Option Addr} {len cap : Nat} {x : DataW H × List MemPlace}
    (hf : DataW.trod enc Try.prog W 0 (fun _ => true) true fuel 22 (Value.cells (.slice a0 len cap)).toList = some x) : ByteRow W.heap.size W a0 len := by
  have c5 : Try.prog.cellsOf 5 = 1 := by kernel_rfl
  rcases Deep.open_slice Try.underlying22 hf with ⟨hcs, _⟩ | ⟨a, len', cap', m, n, D, Pl, hcs, _, hl, hm, hmm, _, hx⟩
  · simp [Value.cells] at hcs
    obtain ⟨rfl, rfl, rfl⟩ := hcs
    exact .inl rfl
  · simp [Value.cells] at hcs
    obtain ⟨rfl, rfl, rfl⟩ := hcs
    simp only [if_true] at hmm
    rw [c5] at hx
    have key : ∀ i, i < len → ∃ c : Nat, c < 256 ∧ W.cell? ((a.add (i * 1)).add 0) = some (.int .u8 (c : Int)) := by
      intro i hi
      obtain ⟨cs', h1, h2⟩ := hx i (by omega)
      obtain ⟨_, _, hc⟩ := World.cells?_some h1
      obtain ⟨k, rfl, _, hw⟩ := DataW.trod_int Try.underlying5 h2
      obtain ⟨k0, k1⟩ := byte_range hw
      refine ⟨k.toNat, by omega, ?_⟩
      rw [Int.toNat_of_nonneg k0]
      exact hc 0 (by omega)
    by_cases h0 : len = 0
    · exact .inl h0
    · obtain ⟨b, off, spot⟩ := a
      have hspot : spot = none := by
        obtain ⟨c, _, e⟩ := key 0 (by omega)
        have := World.cell?_spot e
        simpa [Addr.add] using this
      subst hspot
      simp only [add_plain, Nat.mul_one, Nat.add_zero] at key
      obtain ⟨c, _, e⟩ := key 0 (by omega)
      exact .inr ⟨b, off, rfl, byte_cell_lt e, Nat.le_refl _, key⟩

end Go.Proofs.Ytajjaddlalbnmaa
