/- The specification's WriteAll. -/
import Derived.Test.YtgffplbcpofkmaaStWrSpecTwo
import Derived.Test.YtgffplbcpofkmaaStPutsOK
import Derived.Test.YtgffplbcpofkmaaStStoreMath
import Derived.Deep.CutBlock
import Derived.Deep.CutRange
namespace Go.Proofs.Ytgffplbcpofkmaa.G
open Go.ChangeShapes Go.WideShapes Go.ChangeAt Go.RowKit
set_option linter.unusedVariables false

set_option maxHeartbeats 1000000 in
theorem spec_write_nil2 (a pa : Option Addr) (m c pc : Nat) (now : Int) (w : World) :
    Calls Try.prog 85 #[.agg #[.slice a m c, .int .i64 now], .slice pa 0 pc] w fun e w' => e = .returned (.agg #[.slice a m c, .int .i64 now]) ∧ Below w.heap.size w w' := by
  go_enter Try.func85, Try.ntmps85
  go_wp2_with fail
  refine bodyPost_ret (v := .agg #[.slice a m c, .int .i64 now]) (by simp [results, Try.results85, go_sem]) rfl ⟨rfl, ?_⟩
  repeat (first | exact Below.refl _ _ | refine Below.setCell ?_ (by first | omega | (simp <;> omega)) _ | refine Below.alloc ?_ (by first | omega | (simp <;> omega)) _)
theorem OwnK.chRow2 {lo : Nat} {w : World} {v : Value} {l : Chs} (h : OwnK lo w v l) : ∃ a c, v = .slice a l.length c ∧ ChRow lo w.heap.size w a l := by
  obtain ⟨vs, h1, h2⟩ := h
  exact Kids.row h1 h2
/-- What a WriteAll answers: a store, an hour, a code. -/
def WaS (w : World) (m : Chs) (nr h cd : Int) (e : Ending) (w' : World) : Prop := ∃ a' c', e = .returned (.tuple #[.agg #[.slice a' m.length c', .int .i64 nr], .int .i64 h, .int .i64 cd]) ∧ ChRow w.heap.size w'.heap.size w' a' m ∧ Below w.heap.size w w'
/-- What l06Write makes, of something or of nothing. -/
theorem spec_write (a pa : Option Addr) (c pc : Nat) (l : Chs) (ps : List Ve) (now : Int) (w : World) (hr : ChRow 0 w.heap.size w a l) (hp : VeRow 0 w.heap.size w pa ps) (h2 : storeB l now = true) (h3 : putsB ps = true) {m : Chs} {nr : Int} (h : (ps.length = 0 ∧ m = l ∧ nr = now) ∨ (0 < ps.length ∧ m = wrAll (now + 1) l ps ∧ nr = now + 1)) :
    Calls Try.prog 85 #[.agg #[.slice a l.length c, .int .i64 now], .slice pa ps.length pc] w fun e w' => ∃ a2 c2, e = .returned (.agg #[.slice a2 m.length c2, .int .i64 nr]) ∧ ChRow 0 w'.heap.size w' a2 m ∧ Below w.heap.size w w' := by
  have hbd := storeB_bd h2
  obtain ⟨h16, hn0, hn1, _⟩ := storeB_all h2
  rcases h with ⟨h0, rfl, rfl⟩ | ⟨h0, rfl, rfl⟩
  · rw [h0]
    refine (spec_write_nil2 a pa m.length c pc nr w).mono ?_
    rintro e w' ⟨rfl, hb⟩
    exact ⟨a, c, rfl, ChRow.up hr hb, hb⟩
  · refine (spec_l06Write a pa c pc l ps now w hr hp ⟨by omega, fun x hx => by have := hbd x hx; omega⟩ h0 (by have := (putsB_all h3).1; omega) h16 (fun i hi => putB_key ((putsB_all h3).2 ps[i] (List.getElem_mem hi))) ⟨hn0, by omega⟩).mono ?_
    rintro e w' ⟨v, rfl, ho, hb⟩
    obtain ⟨a2, c2, rfl, r2⟩ := ho.chRow2
    exact ⟨a2, c2, rfl, ChRow.wide r2 (Nat.zero_le _) (Nat.le_refl _), hb⟩
end Go.Proofs.Ytgffplbcpofkmaa.G
