/- WriteAll's answers in one form, the program's and the specification's. -/
import Derived.Test.YtljnhecdelimfaaStMark
import Derived.Test.YtljnhecdelimfaaStWaImplTwo
import Derived.Test.YtljnhecdelimfaaStWaSpec
namespace Go.Proofs.Ytljnhecdelimfaa.G
open Go.ChangeShapes Go.WideShapes Go.ChangeAt Go.RowKit
set_option linter.unusedVariables false

def StHas (lo hi : Nat) (w : World) (a : Option Addr) (l : Chs) (bs : Nat → Nat) : Prop := l = [] ∨ StOwn lo hi w a l bs
def StMkd (lo hi : Nat) (w : World) (a : Option Addr) (l : Chs) (bs : Nat → Nat) (K : Int) : Prop := l = [] ∨ StMk lo hi w a l bs K l.length
theorem StHas.keep {lo hi : Nat} {w w' : World} {a : Option Addr} {l : Chs} {bs : Nat → Nat} (h : StHas lo hi w a l bs) (hk : Agree lo hi w w') : StHas lo hi w' a l bs := h.imp id (fun h => h.keep hk)
theorem StHas.row {lo hi : Nat} {w : World} {a : Option Addr} {l : Chs} {bs : Nat → Nat} (h : StHas lo hi w a l bs) : ChRow lo hi w a l := h.elim (fun h => .inl h) (fun h => h.row)
theorem StMkd.keep {lo hi : Nat} {w w' : World} {a : Option Addr} {l : Chs} {bs : Nat → Nat} {K : Int} (h : StMkd lo hi w a l bs K) (hk : Agree lo hi w w') : StMkd lo hi w' a l bs K := h.imp id (fun h => h.keep hk)
end Go.Proofs.Ytljnhecdelimfaa.G
namespace Go.Proofs.Ytljnhecdelimfaa.G
open Go.ChangeShapes Go.WideShapes Go.ChangeAt Go.RowKit
set_option linter.unusedVariables false

/-- What WriteAll answers: a store, an hour, a code. -/
def WaIs (l : Chs) (now : Int) (ps : List Ve) (m : Chs) (nr h cd : Int) : Prop :=
  (4096 < ps.length ∧ m = [] ∧ nr = 0 ∧ h = 0 ∧ cd = 2) ∨
  (ps.length ≤ 4096 ∧ storeB l now = false ∧ m = [] ∧ nr = 0 ∧ h = 0 ∧ cd = 1) ∨
  (ps.length ≤ 4096 ∧ storeB l now = true ∧ putsB ps = false ∧ m = [] ∧ nr = 0 ∧ h = 0 ∧ cd = 4) ∨
  (ps.length ≤ 4096 ∧ storeB l now = true ∧ putsB ps = true ∧ now = 100000 ∧ m = l ∧ nr = now ∧ h = 0 ∧ cd = 7) ∨
  (ps.length = 0 ∧ storeB l now = true ∧ putsB ps = true ∧ now ≠ 100000 ∧ m = l ∧ nr = now ∧ h = now ∧ cd = 0) ∨
  (0 < ps.length ∧ ps.length ≤ 4096 ∧ storeB l now = true ∧ putsB ps = true ∧ now ≠ 100000 ∧ m = wrAll (now + 1) l ps ∧ nr = now + 1 ∧ h = now + 1 ∧ cd = 0)
theorem store_small {l : Chs} {now : Int} (h : storeB l now = true) : ChsBd 100000 l := by
  have hbd := storeB_bd h
  have hn := (storeB_all h).2.2.1
  exact ⟨by have := (storeB_all h).1; omega, fun x hx => by have := hbd x hx; omega⟩
theorem wr_small {l : Chs} {now : Int} {ps : List Ve} (h : storeB l now = true) (hp : putsB ps = true) : ChsBd 100400 (wrAll (now + 1) l ps) := by
  refine ⟨by rw [wrAll_len]; have := (storeB_all h).1; omega, fun x hx => ?_⟩
  have := wrAll_bd (t := now + 1) ps (store_small h).2 x hx
  have := (putsB_all hp).1
  omega
theorem sizeN_16 {m : Chs} (h : ChsBd 100400 m) (h16 : m.length = 16) : sizeN m ≤ 16777216 := by
  have := sizeN_le (l := m) (fun x hx => by have := h.2 x hx; omega)
  omega
theorem waIs (l : Chs) (now : Int) (ps : List Ve) : ∃ m nr h cd, WaIs l now ps m nr h cd ∧ ChsBd 1048576 m ∧ sizeN m ≤ 16777216 := by
  have none_ : ChsBd 1048576 ([] : Chs) ∧ sizeN ([] : Chs) ≤ 16777216 := ⟨⟨Nat.zero_le _, by simp⟩, by simp [sizeN]⟩
  by_cases h1 : 4096 < ps.length
  · exact ⟨_, _, _, _, .inl ⟨h1, rfl, rfl, rfl, rfl⟩, none_⟩
  cases h2 : storeB l now
  · exact ⟨_, _, _, _, .inr (.inl ⟨by omega, h2, rfl, rfl, rfl, rfl⟩), none_⟩
  cases h3 : putsB ps
  · exact ⟨_, _, _, _, .inr (.inr (.inl ⟨by omega, h2, h3, rfl, rfl, rfl, rfl⟩)), none_⟩
  have hs := store_small h2
  have h16 := (storeB_all h2).1
  have hl : ChsBd 1048576 l ∧ sizeN l ≤ 16777216 := ⟨⟨by omega, fun x hx => by have := hs.2 x hx; omega⟩, sizeN_16 ⟨by omega, fun x hx => by have := hs.2 x hx; omega⟩ h16⟩
  by_cases h4 : now = 100000
  · exact ⟨_, _, _, _, .inr (.inr (.inr (.inl ⟨by omega, h2, h3, h4, rfl, rfl, rfl, rfl⟩))), hl⟩
  by_cases h0 : ps.length = 0
  · exact ⟨_, _, _, _, .inr (.inr (.inr (.inr (.inl ⟨h0, h2, h3, h4, rfl, rfl, rfl, rfl⟩)))), hl⟩
  · have hw := wr_small h2 h3
    exact ⟨_, _, _, _, .inr (.inr (.inr (.inr (.inr ⟨by omega, by omega, h2, h3, h4, rfl, rfl, rfl, rfl⟩)))), ⟨by have := hw.1; omega, fun x hx => by have := hw.2 x hx; omega⟩, sizeN_16 hw (by rw [wrAll_len]; exact h16)⟩
set_option maxHeartbeats 1000000 in
theorem spec_wa (a pa : Option Addr) (c pc : Nat) (l : Chs) (ps : List Ve) (now : Int) (w : World) (hr : ChRow 0 w.heap.size w a l) (hp : VeRow 0 w.heap.size w pa ps) (hbd : ChsBd 1048576 l) (hpl : ps.length ≤ 1048576) {m : Chs} {nr h cd : Int} (hw : WaIs l now ps m nr h cd) :
    Calls Try.prog 7 #[.agg #[.slice a l.length c, .int .i64 now], .slice pa ps.length pc] w fun e w' => ∃ a' c', e = .returned (.tuple #[.agg #[.slice a' m.length c', .int .i64 nr], .int .i64 h, .int .i64 cd]) ∧ ChRow w.heap.size w'.heap.size w' a' m ∧ Below w.heap.size w w' := by
  rcases hw with ⟨h1, rfl, rfl, rfl, rfl⟩ | ⟨h1, h2, rfl, rfl, rfl, rfl⟩ | ⟨h1, h2, h3, rfl, rfl, rfl, rfl⟩ | ⟨h1, h2, h3, h4, rfl, rfl, rfl, rfl⟩ | ⟨h0, h2, h3, h4, rfl, rfl, rfl, rfl⟩ | ⟨h0, h1, h2, h3, h4, rfl, rfl, rfl, rfl⟩
  · exact (spec_wa_long a pa c pc l ps now w hr hp hbd hpl h1).mono (by rintro e w' ⟨rfl, hb⟩; exact ⟨none, 0, rfl, .inl rfl, hb⟩)
  · exact (spec_wa_bad a pa c pc l ps now w hr hp hbd hpl h1 h2).mono (by rintro e w' ⟨rfl, hb⟩; exact ⟨none, 0, rfl, .inl rfl, hb⟩)
  · exact (spec_wa_range a pa c pc l ps now w hr hp hbd hpl h1 h2 h3).mono (by rintro e w' ⟨rfl, hb⟩; exact ⟨none, 0, rfl, .inl rfl, hb⟩)
  · exact spec_wa_full a pa c pc _ ps _ w hr hp hbd hpl h1 h2 h3 h4
  · exact spec_wa_ok a pa c pc _ ps _ w hr hp hbd hpl (by omega) h2 h3 h4 (.inl ⟨h0, rfl, rfl⟩)
  · exact spec_wa_ok a pa c pc l ps now w hr hp hbd hpl h1 h2 h3 h4 (.inr ⟨h0, rfl, rfl⟩)
set_option maxHeartbeats 1000000 in
theorem impl_wa (a pa : Option Addr) (c pc : Nat) (l : Chs) (ps : List Ve) (now : Int) (w : World) (hr : ChRow 0 w.heap.size w a l) (hp : VeRow 0 w.heap.size w pa ps) (hbd : ChsBd 1048576 l) (hpl : ps.length ≤ 1048576) {m : Chs} {nr h cd : Int} (hw : WaIs l now ps m nr h cd) :
    Calls Try.prog 6 #[.agg #[.slice a l.length c, .int .i64 now], .slice pa ps.length pc] w fun e w' => ∃ a' c' bs, e = .returned (.tuple #[.agg #[.slice a' m.length c', .int .i64 nr], .int .i64 h, .int .i64 cd]) ∧ StHas w.heap.size w'.heap.size w' a' m bs ∧ Below w.heap.size w w' := by
  rcases hw with ⟨h1, rfl, rfl, rfl, rfl⟩ | ⟨h1, h2, rfl, rfl, rfl, rfl⟩ | ⟨h1, h2, h3, rfl, rfl, rfl, rfl⟩ | ⟨h1, h2, h3, h4, rfl, rfl, rfl, rfl⟩ | ⟨h0, h2, h3, h4, rfl, rfl, rfl, rfl⟩ | ⟨h0, h1, h2, h3, h4, rfl, rfl, rfl, rfl⟩
  · exact (impl_wa_long a pa c pc l ps now w hr hp hbd hpl h1).mono (by rintro e w' ⟨rfl, hb⟩; exact ⟨none, 0, fun _ => 0, rfl, .inl rfl, hb⟩)
  · exact (impl_wa_bad a pa c pc l ps now w hr hp hbd hpl h1 h2).mono (by rintro e w' ⟨rfl, hb⟩; exact ⟨none, 0, fun _ => 0, rfl, .inl rfl, hb⟩)
  · exact (impl_wa_range a pa c pc l ps now w hr hp hbd hpl h1 h2 h3).mono (by rintro e w' ⟨rfl, hb⟩; exact ⟨none, 0, fun _ => 0, rfl, .inl rfl, hb⟩)
  · exact (impl_wa_full a pa c pc _ ps _ w hr hp hbd hpl h1 h2 h3 h4).mono (by rintro e w' ⟨g, bs, rfl, hs, hb⟩; exact ⟨_, _, bs, rfl, .inr hs.own, hb⟩)
  · exact (impl_wa_nil a pa c pc _ ps _ w hr hp hbd hpl h0 h2 h3 h4).mono (by rintro e w' ⟨g, bs, rfl, hs, hb⟩; exact ⟨_, _, bs, rfl, .inr hs.own, hb⟩)
  · refine (impl_wa_some a pa c pc l ps now w hr hp hbd hpl h0 h1 h2 h3 h4).mono ?_
    rintro e w' ⟨g, bs, rfl, hs, hb⟩
    exact ⟨_, _, bs, by rw [wrAll_len], .inr hs.own, hb⟩
end Go.Proofs.Ytljnhecdelimfaa.G
