/- The draws: a store. -/
import Derived.Test.YtoojbgngjnepeaaStPuts
import Derived.Test.YtoojbgngjnepeaaStStoreMath
import Derived.Test.YtoojbgngjnepeaaStFgSpec
import Derived.Test.YtoojbgngjnepeaaStNew
namespace Go.Proofs.Ytoojbgngjnepeaa.G
open Go.ChangeShapes Go.WideShapes Go.ChangeAt Go.RowKit
set_option linter.unusedVariables false

set_option maxHeartbeats 1000000 in
theorem spec_write_nil (a pa : Option Addr) (m c pc : Nat) (now : Int) (w : World) :
    Calls Try.prog 31 #[.agg #[.slice a m c, .int .i64 now], .slice pa 0 pc] w fun e w' => e = .returned (.agg #[.slice a m c, .int .i64 now]) ∧ Below w.heap.size w w' := by
  go_enter Try.func31, Try.ntmps31
  go_wp2_with fail
  refine bodyPost_ret (v := .agg #[.slice a m c, .int .i64 now]) (by simp [results, Try.results31, go_sem]) rfl ⟨rfl, ?_⟩
  repeat (first | exact Below.refl _ _ | refine Below.setCell ?_ (by first | omega | (simp <;> omega)) _ | refine Below.alloc ?_ (by first | omega | (simp <;> omega)) _)
/-- A store's rows, beside the variable that holds it. -/
def Beside (lo X : Nat) (w : World) (a : Option Addr) (l : Chs) : Prop := ChRow lo X w a l ∨ ChRow (X + 1) w.heap.size w a l
theorem Beside.row {lo X : Nat} {w : World} {a : Option Addr} {l : Chs} (h : Beside lo X w a l) (hX : X ≤ w.heap.size) : ChRow 0 w.heap.size w a l := by
  rcases h with h | h
  · exact ChRow.wide h (Nat.zero_le _) hX
  · exact ChRow.wide h (Nat.zero_le _) (Nat.le_refl _)
theorem Beside.keep {lo X : Nat} {w w' : World} {a : Option Addr} {l : Chs} (h : Beside lo X w a l) (hX : X ≤ w.heap.size) (hlo : lo ≤ X) (hs : w.heap.size ≤ w'.heap.size) (hk : ∀ g, lo ≤ g → g < w.heap.size → g ≠ X → w'.heap[g]? = w.heap[g]?) : Beside lo X w' a l := by
  rcases h with h | h
  · exact .inl (ChRow.keep h (fun g h1 h2 => hk g h1 (by omega) (by omega)))
  · exact .inr (ChRow.wide (ChRow.keep h (fun g h1 h2 => hk g (by omega) h2 (by omega))) (Nat.le_refl _) hs)
theorem OwnK.chRow {lo : Nat} {w : World} {v : Value} {l : Chs} (h : OwnK lo w v l) : ∃ a c, v = .slice a l.length c ∧ ChRow lo w.heap.size w a l := by
  obtain ⟨vs, h1, h2⟩ := h
  exact Kids.row h1 h2
/-- The write of a drawn store, of whatever writes. -/
theorem write_any (a pa : Option Addr) (c pc : Nat) (l : Chs) (ps : List Ve) (now X lo : Nat) (w : World) (hb : Beside lo X w a l) (hX : X < w.heap.size) (hlo : lo ≤ X) (hp : VeRow 0 w.heap.size w pa ps) (hs : storeB l now = true) (hn : now ≤ 1000) (hpl : ps.length ≤ 4) (hpp : ∀ p ∈ ps, putB p.ts p.v = true) :
    Calls Try.prog 31 #[.agg #[.slice a l.length c, .int .i64 now], .slice pa ps.length pc] w fun e w' => (∃ (l2 : Chs) (a2 : Option Addr) (c2 now2 : Nat), e = .returned (.agg #[.slice a2 l2.length c2, .int .i64 now2]) ∧ Beside lo X w' a2 l2 ∧ storeB l2 now2 = true ∧ now2 ≤ now + 1) ∧ Below w.heap.size w w' := by
  by_cases h0 : ps.length = 0
  · rw [h0]
    refine (spec_write_nil a pa l.length c pc now w).mono ?_
    rintro e w' ⟨rfl, hbw⟩
    exact ⟨⟨l, a, c, now, rfl, hb.keep (by omega) hlo hbw.size (fun g h1 h2 h3 => hbw.block g h2), hs, by omega⟩, hbw⟩
  · obtain ⟨h1, h2, h3, h4⟩ := storeB_all hs
    have hlen := storeB_bd hs
    refine (spec_l06Write a pa c pc l ps now w (hb.row (by omega)) hp ⟨by omega, fun x hx => by have := hlen x hx; omega⟩ (by omega) (by omega) h1 (fun i hi => by
      have := hpp ps[i] (List.getElem_mem hi)
      simp only [putB, keyB, Bool.and_eq_true, decide_eq_true_eq] at this
      exact this.1) (by omega)).mono ?_
    rintro e w' ⟨v, rfl, ho, hbw⟩
    obtain ⟨a2, c2, rfl, hr⟩ := ho.chRow
    exact ⟨⟨_, a2, c2, now + 1, rfl, .inr (ChRow.wide hr (by omega) (Nat.le_refl _)), storeB_wr hs (by omega) hpp, Nat.le_refl _⟩, hbw⟩
end Go.Proofs.Ytoojbgngjnepeaa.G
