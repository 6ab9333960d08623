/- Stores that a call owns, and the law's own copies of stores. -/
import Derived.Test.YtlfcjhiojbcijaaStRows
namespace Go.Proofs.Ytlfcjhiojbcijaa.G
open Go.ChangeShapes Go.WideShapes Go.ChangeAt Go.RowKit
set_option linter.unusedVariables false

def VeCell (cs : Array Value) (o : Nat) (x : Ve) : Prop := cs[o]? = some (.int .i64 x.ts) ∧ cs[o + 1]? = some (.int .i64 x.v)
/-- A block that holds a chain's versions, from its start. -/
def VeBlk (w : World) (b : Nat) (l : List Ve) : Prop := ∃ cs, w.heap[b]? = some (.cells cs 92 (0, 0)) ∧ l.length * 2 ≤ cs.size ∧ ∀ i x, l[i]? = some x → VeCell cs (i * 2) x
theorem VeBlk.move {w w' : World} {b : Nat} {l : List Ve} (h : VeBlk w b l) (e : w'.heap[b]? = w.heap[b]?) : VeBlk w' b l := by
  obtain ⟨cs, h1, h2, h3⟩ := h
  exact ⟨cs, e.trans h1, h2, h3⟩
theorem VeBlk.row {w : World} {b : Nat} {l : List Ve} {lo hi : Nat} (h : VeBlk w b l) (h1 : lo ≤ b) (h2 : b < hi) : VeRow lo hi w (some ⟨b, 0, none⟩) l := by
  obtain ⟨cs, g1, g2, g3⟩ := h
  refine .inr ⟨b, 0, rfl, h1, h2, fun i x hx => ?_⟩
  rw [row_rd g1, Nat.zero_add]
  exact g3 i x hx
theorem VeBlk.lt {w : World} {b : Nat} {l : List Ve} (h : VeBlk w b l) : b < w.heap.size := by
  obtain ⟨cs, g1, _⟩ := h
  exact (Array.getElem?_eq_some_iff.1 g1).1
def bput (bs : Nat → Nat) (k g : Nat) : Nat → Nat := fun i => if i = k then g else bs i
theorem bput_at (bs : Nat → Nat) (k g : Nat) : bput bs k g k = g := by simp [bput]
theorem bput_ne (bs : Nat → Nat) (k g : Nat) {i : Nat} (h : i ≠ k) : bput bs k g i = bs i := by simp [bput, h]
/-- The first k chains of a store are laid, each in a block of its own behind N. -/
def ChLaid (N : Nat) (w : World) (cs : Array Value) (l : Chs) (k : Nat) (bs : Nat → Nat) : Prop :=
  (∀ i x, i < k → l[i]? = some x → ∃ c, cs[i]? = some (.slice (some ⟨bs i, 0, none⟩) x.length c) ∧ x.length ≤ c ∧ N < bs i ∧ bs i < w.heap.size ∧ VeBlk w (bs i) x) ∧ (∀ i j, i < k → j < k → i ≠ j → bs i ≠ bs j)
theorem ChLaid.keep {N : Nat} {w w' : World} {cs : Array Value} {l : Chs} {k : Nat} {bs : Nat → Nat} (h : ChLaid N w cs l k bs) (hs : w.heap.size ≤ w'.heap.size) (hk : Agree (N + 1) w.heap.size w w') : ChLaid N w' cs l k bs := by
  refine ⟨fun i x hi hx => ?_, h.2⟩
  obtain ⟨c, h1, h2, h3, h4, h5⟩ := h.1 i x hi hx
  exact ⟨c, h1, h2, h3, by omega, h5.move (hk _ (by omega) h4)⟩
theorem ChLaid.put {N : Nat} {w : World} {cs : Array Value} {l : Chs} {k : Nat} {bs : Nat → Nat} {g c : Nat} (h : ChLaid N w cs l k bs) (hk : k < l.length) (hs : l.length ≤ cs.size) (hc : l[k].length ≤ c) (hg1 : N < g) (hg2 : g < w.heap.size) (hv : VeBlk w g l[k]) (hn : ∀ i, i < k → bs i ≠ g) :
    ChLaid N w (cs.setIfInBounds k (.slice (some ⟨g, 0, none⟩) l[k].length c)) l (k + 1) (bput bs k g) := by
  refine ⟨fun i x hi hx => ?_, fun i j hi hj hij => ?_⟩
  · by_cases hik : i = k
    · subst hik
      rw [List.getElem?_eq_getElem hk] at hx
      simp only [Option.some.injEq] at hx
      subst hx
      rw [bput_at]
      exact ⟨c, by simp [Array.getElem?_setIfInBounds]; omega, hc, hg1, hg2, hv⟩
    · obtain ⟨c', h1, h2, h3, h4, h5⟩ := h.1 i x (by omega) hx
      rw [bput_ne _ _ _ hik]
      exact ⟨c', by rw [Array.getElem?_setIfInBounds_ne (by omega)]; exact h1, h2, h3, h4, h5⟩
  · by_cases hik : i = k
    · subst hik; rw [bput_at, bput_ne _ _ _ (by omega)]; exact (hn j (by omega)).symm
    · by_cases hjk : j = k
      · subst hjk; rw [bput_ne _ _ _ hik, bput_at]; exact hn i (by omega)
      · rw [bput_ne _ _ _ hik, bput_ne _ _ _ hjk]; exact h.2 i j (by omega) (by omega) hij
/-- A store's chains that a call owns: all of them lie between two numbers of blocks, each that is not empty in a block of its own. -/
def StOwn (lo hi : Nat) (w : World) (a : Option Addr) (l : Chs) (bs : Nat → Nat) : Prop :=
  ∃ b cs, a = some ⟨b, 0, none⟩ ∧ lo ≤ b ∧ b < hi ∧ w.heap[b]? = some (.cells cs 78 (0, 0)) ∧ l.length ≤ cs.size ∧
    (∀ i x, l[i]? = some x → ∃ a3 c, cs[i]? = some (.slice a3 x.length c) ∧ x.length ≤ c ∧ (x ≠ [] → a3 = some ⟨bs i, 0, none⟩ ∧ lo ≤ bs i ∧ bs i < hi ∧ bs i ≠ b ∧ VeBlk w (bs i) x)) ∧
    (∀ i j x y, l[i]? = some x → l[j]? = some y → i ≠ j → x ≠ [] → y ≠ [] → bs i ≠ bs j)
theorem StOwn.of_laid {N : Nat} {w : World} {cs : Array Value} {l : Chs} {bs : Nat → Nat} (h : ChLaid N w cs l l.length bs) (hh : w.heap[N]? = some (.cells cs 78 (0, 0))) (hs : l.length ≤ cs.size) : StOwn N w.heap.size w (some ⟨N, 0, none⟩) l bs := by
  refine ⟨N, cs, rfl, Nat.le_refl _, (Array.getElem?_eq_some_iff.1 hh).1, hh, hs, fun i x hx => ?_, fun i j x y hx hy hij _ _ => h.2 i j (List.getElem?_eq_some_iff.1 hx).1 (List.getElem?_eq_some_iff.1 hy).1 hij⟩
  obtain ⟨c, h1, h2, h3, h4, h5⟩ := h.1 i x (List.getElem?_eq_some_iff.1 hx).1 hx
  exact ⟨_, c, h1, h2, fun _ => ⟨rfl, by omega, h4, by omega, h5⟩⟩
theorem StOwn.keep {lo hi : Nat} {w w' : World} {a : Option Addr} {l : Chs} {bs : Nat → Nat} (h : StOwn lo hi w a l bs) (hk : Agree lo hi w w') : StOwn lo hi w' a l bs := by
  obtain ⟨b, cs, e, h1, h2, h3, h4, h5, h6⟩ := h
  refine ⟨b, cs, e, h1, h2, (hk b h1 h2).trans h3, h4, fun i x hx => ?_, h6⟩
  obtain ⟨a3, c, g1, g2, g3⟩ := h5 i x hx
  refine ⟨a3, c, g1, g2, fun hne => ?_⟩
  obtain ⟨f1, f2, f3, f4, f5⟩ := g3 hne
  exact ⟨f1, f2, f3, f4, f5.move (hk _ f2 f3)⟩
theorem StOwn.wide {lo hi lo' hi' : Nat} {w : World} {a : Option Addr} {l : Chs} {bs : Nat → Nat} (h : StOwn lo hi w a l bs) (e1 : lo' ≤ lo) (e2 : hi ≤ hi') : StOwn lo' hi' w a l bs := by
  obtain ⟨b, cs, e, h1, h2, h3, h4, h5, h6⟩ := h
  refine ⟨b, cs, e, by omega, by omega, h3, h4, fun i x hx => ?_, h6⟩
  obtain ⟨a3, c, g1, g2, g3⟩ := h5 i x hx
  refine ⟨a3, c, g1, g2, fun hne => ?_⟩
  obtain ⟨f1, f2, f3, f4, f5⟩ := g3 hne
  exact ⟨f1, by omega, by omega, f4, f5⟩
theorem StOwn.row {lo hi : Nat} {w : World} {a : Option Addr} {l : Chs} {bs : Nat → Nat} (h : StOwn lo hi w a l bs) : ChRow lo hi w a l := by
  obtain ⟨b, cs, rfl, h1, h2, h3, h4, h5, h6⟩ := h
  refine .inr ⟨b, 0, rfl, h1, h2, fun i x hx => ?_⟩
  rw [row_rd h3]
  obtain ⟨a3, c, g1, g2, g3⟩ := h5 i x hx
  refine ⟨a3, c, by simpa using g1, g2, ?_⟩
  by_cases hne : x = []
  · exact .inl hne
  · obtain ⟨f1, f2, f3, f4, f5⟩ := g3 hne
    rw [f1]
    exact f5.row f2 f3
theorem put_ve {cs : Array Value} {l : List Ve} {k : Nat} (hs : cs.size = l.length * 2) (hk : k < l.length) (h : ∀ i x, i < k → l[i]? = some x → VeCell cs (i * 2) x) :
    ∀ i x, i < k + 1 → l[i]? = some x → VeCell ((cs.setIfInBounds (k * 2) (.int .i64 l[k].ts)).setIfInBounds (k * 2 + 1) (.int .i64 l[k].v)) (i * 2) x := by
  intro i x hi hx
  by_cases hik : i = k
  · subst hik
    rw [List.getElem?_eq_getElem hk] at hx
    simp only [Option.some.injEq] at hx
    subst hx
    refine ⟨?_, ?_⟩ <;> simp [Array.getElem?_setIfInBounds] <;> omega
  · obtain ⟨c0, c1⟩ := h i x (by omega) hx
    refine ⟨?_, ?_⟩
    · rw [Array.getElem?_setIfInBounds_ne (by omega), Array.getElem?_setIfInBounds_ne (by omega)]; exact c0
    · rw [Array.getElem?_setIfInBounds_ne (by omega), Array.getElem?_setIfInBounds_ne (by omega)]; exact c1

set_option maxHeartbeats 1000000 in
theorem to_Ve (x : Ve) (w : World) :
    Calls Try.prog 65 #[.agg #[.int .i64 x.ts, .int .i64 x.v]] w fun e w' => e = .returned (.agg #[.int .i64 x.ts, .int .i64 x.v]) ∧ Below w.heap.size w w' := by
  go_enter Try.func65, Try.ntmps65
  go_wp2
  refine bodyPost_ret (v := .agg #[.int .i64 x.ts, .int .i64 x.v]) (by simp [results, Try.results65, go_sem]) rfl ⟨rfl, ?_⟩
  repeat (first | exact Below.refl _ _ | refine Below.setCell ?_ (by first | omega | (simp <;> omega)) _ | refine Below.alloc ?_ (by first | omega | (simp <;> omega)) _)
set_option maxRecDepth 100000 in
theorem info_Ve : ∃ i, Try.prog.info? 92 = some i ∧ i.zero = some (.agg #[.int .i64 0, .int .i64 0]) ∧ i.size = 2 ∧ i.bytes = 16 := by
  refine ⟨_, rfl, ?_, ?_, ?_⟩ <;> kernel_rfl
set_option maxHeartbeats 2000000 in
theorem to_Ves (a : Option Addr) (c : Nat) (l : List Ve) (w : World) (hr : VeRow 0 w.heap.size w a l) (hl : l.length ≤ 1048576) :
    Calls Try.prog 50 #[.slice a l.length c] w fun e w' => e = .returned (.slice (some ⟨w.heap.size, 0, none⟩) l.length l.length) ∧ VeBlk w' w.heap.size l ∧ Below w.heap.size w w' := by
  have HR : Hid (VeRow 0 w.heap.size w a l) := hr
  clear hr
  obtain ⟨i27, hi, hz, hsz, hby⟩ := info_Ve
  have hmk := run_make (P := Try.prog) w 78 92 i27 _ Try.underlying78 hi hz .i64 .i64 (l.length : Int) (l.length : Int) (by omega) (by omega) (by rw [hby]; omega) (by omega)
  rw [hsz, Int.toNat_natCast] at hmk
  clear hi hz hsz hby
  have hs0 := size_madeCells (Value.agg #[.int .i64 0, .int .i64 0]).cells (l.length * 2)
  generalize madeCells (Value.agg #[.int .i64 0, .int .i64 0]).cells (l.length * 2) = cs0 at *
  go_enter Try.func50, Try.ntmps50
  go_wp2_with fail
  go_loopw [4] (fun i w' => ∃ (k : Nat) (cs : Array Value), k ≤ l.length ∧ i = .int .i64 k ∧ Below w.heap.size w w' ∧ Hid (w'.heap[w.heap.size]? = some (.cells cs 92 (0, 0))) ∧ cs.size = l.length * 2 ∧ Hid (∀ i x, i < k → l[i]? = some x → VeCell cs (i * 2) x)) (fun i _ => l.length - (intOf i).toNat)
  case atStart => exact ⟨0, cs0, by omega, rfl, (Below.refl _ _).alloc (Nat.le_refl _) _, heap_alloc_new _ _, hs0, fun i x h => by omega⟩
  case round =>
    rename_i wr
    obtain ⟨k, cs, hk, rfl, hb, HH, hcs, HL⟩ := hrel
    clear hmk hs0
    by_cases hlt : k < l.length
    · obtain ⟨b, o, ha, _, hbl, d0, d1⟩ := VeRow.cells (VeRow.keep HR.out (agree hb (Nat.le_refl _))) k hlt
      subst ha
      go_wp2_with fail
      refine (to_Ve l[k] _).mono ?_
      rintro e w1 ⟨rfl, hb1⟩
      have hN : w.heap.size < wr.heap.size := (Array.getElem?_eq_some_iff.1 HH.out).1
      have HH1 : Hid (w1.heap[w.heap.size]? = some (.cells cs 92 (0, 0))) := (hb1.block _ hN).trans HH.out
      obtain ⟨v0, hv0⟩ : ∃ v, w1.cell? ⟨w.heap.size, k * 2, none⟩ = some v := ⟨_, (row_cell HH1.out _).trans (Array.getElem?_eq_getElem (by omega))⟩
      obtain ⟨v1, hv1⟩ : ∃ v, w1.cell? ⟨w.heap.size, k * 2 + 1, none⟩ = some v := ⟨_, (row_cell HH1.out _).trans (Array.getElem?_eq_getElem (by omega))⟩
      have hf0 := row_frozen HH1.out (k * 2)
      have hf1 := row_frozen HH1.out (k * 2 + 1)
      have qb : Hid _ := hb.trans (hb1.mono hb.size)
      have hz1 := hb1.size
      clear d0 d1
      go_wp2_with fail
      exact ⟨⟨k + 1, _, by omega, by go_num, (qb.out.setCell (Nat.le_refl _) _).setCell (Nat.le_refl _) _, row_set (row_set HH1.out _ _) _ _, by simp [hcs], put_ve hcs hlt HL.out⟩, by simp [intOf]; omega⟩
    · go_wp2_with fail
      go_ret
      obtain rfl : k = l.length := by omega
      exact ⟨rfl, ⟨cs, HH.out, by omega, fun i x hx => HL.out i x (List.getElem?_eq_some_iff.1 hx).1 hx⟩, hb⟩
set_option maxRecDepth 100000 in
theorem info_Ch : ∃ i, Try.prog.info? 78 = some i ∧ i.zero = some (.slice none 0 0) ∧ i.size = 1 ∧ i.bytes = 24 := by
  refine ⟨_, rfl, ?_, ?_, ?_⟩ <;> kernel_rfl
set_option maxHeartbeats 2000000 in
theorem to_Chs (a : Option Addr) (c : Nat) (l : Chs) (w : World) (hr : ChRow 0 w.heap.size w a l) (hbd : ChsBd 1048576 l) :
    Calls Try.prog 25 #[.slice a l.length c] w fun e w' => ∃ bs, e = .returned (.slice (some ⟨w.heap.size, 0, none⟩) l.length l.length) ∧ StOwn w.heap.size w'.heap.size w' (some ⟨w.heap.size, 0, none⟩) l bs ∧ Below w.heap.size w w' := by
  obtain ⟨hl, ht⟩ := hbd
  have HR : Hid (ChRow 0 w.heap.size w a l) := hr
  have HT : Hid (∀ x ∈ l, x.length ≤ 1048576) := ht
  clear hr ht
  obtain ⟨i27, hi, hz, hsz, hby⟩ := info_Ch
  have hmk := run_make (P := Try.prog) w 36 78 i27 _ Try.underlying36 hi hz .i64 .i64 (l.length : Int) (l.length : Int) (by omega) (by omega) (by rw [hby]; omega) (by omega)
  rw [hsz, Int.toNat_natCast, Nat.mul_one] at hmk
  clear hi hz hsz hby
  have hs0 := size_madeCells (Value.slice none 0 0).cells l.length
  generalize madeCells (Value.slice none 0 0).cells l.length = cs0 at *
  go_enter Try.func25, Try.ntmps25
  go_wp2_with fail
  go_loopw [4] (fun i w' => ∃ (k : Nat) (cs : Array Value) (bs : Nat → Nat), k ≤ l.length ∧ i = .int .i64 k ∧ Below w.heap.size w w' ∧ Hid (w'.heap[w.heap.size]? = some (.cells cs 78 (0, 0))) ∧ cs.size = l.length ∧ Hid (ChLaid w.heap.size w' cs l k bs)) (fun i _ => l.length - (intOf i).toNat)
  case atStart => exact ⟨0, cs0, fun _ => 0, by omega, rfl, (Below.refl _ _).alloc (Nat.le_refl _) _, heap_alloc_new _ _, hs0, ⟨fun i x h => by omega, fun i j h => by omega⟩⟩
  case round =>
    rename_i wr
    obtain ⟨k, cs, bs, hk, rfl, hb, HH, hcs, HL⟩ := hrel
    clear hmk hs0
    by_cases hlt : k < l.length
    · obtain ⟨b, o, a3, c3, ha, _, hbl, d0, _, r3⟩ := ChRow.cells (ChRow.keep HR.out (agree hb (Nat.le_refl _))) k hlt
      subst ha
      have R3 : Hid (VeRow 0 wr.heap.size wr a3 l[k]) := VeRow.wide r3 (Nat.le_refl _) hb.size
      have HX : Hid (l[k].length ≤ 1048576) := HT.out l[k] (List.getElem_mem hlt)
      clear r3
      go_wp2_with fail
      refine (to_Ves a3 c3 l[k] _ R3.out HX.out).mono ?_
      rintro e w1 ⟨rfl, V1, hb1⟩
      have V1 : Hid (VeBlk w1 wr.heap.size l[k]) := V1
      have hN : w.heap.size < wr.heap.size := (Array.getElem?_eq_some_iff.1 HH.out).1
      have HH1 : Hid (w1.heap[w.heap.size]? = some (.cells cs 78 (0, 0))) := (hb1.block _ hN).trans HH.out
      have HL1 : Hid (ChLaid w.heap.size w1 cs l k bs) := ChLaid.keep HL.out hb1.size (agree hb1 (Nat.le_refl _))
      have HNE : Hid (∀ i, i < k → bs i ≠ wr.heap.size) := fun i hi => by
        obtain ⟨_, _, _, _, h4, _⟩ := HL.out.1 i l[i] hi (List.getElem?_eq_getElem (by omega))
        omega
      obtain ⟨v0, hv0⟩ : ∃ v, w1.cell? ⟨w.heap.size, k, none⟩ = some v := ⟨_, (row_cell HH1.out _).trans (Array.getElem?_eq_getElem (by omega))⟩
      have hf0 := row_frozen HH1.out k
      have qb : Hid _ := hb.trans (hb1.mono hb.size)
      have hz1 := hb1.size
      have hz2 : wr.heap.size < w1.heap.size := V1.out.lt
      clear d0
      go_wp2_with fail
      refine ⟨⟨k + 1, _, bput bs k wr.heap.size, by omega, by go_num, qb.out.setCell (Nat.le_refl _) _, row_set HH1.out _ _, by simp [hcs], ?_⟩, by simp [intOf]; omega⟩
      refine ChLaid.put (g := wr.heap.size) (c := l[k].length) (ChLaid.keep HL1.out (by simp) ?_) hlt (by omega) (Nat.le_refl _) hN (by simpa using hz2) (V1.out.move ?_) HNE.out
      · intro g h1 h2
        exact heap_set _ _ _ _ _ (by omega)
      · exact heap_set _ _ _ _ _ (by omega)
    · go_wp2_with fail
      go_ret
      obtain rfl : k = l.length := by omega
      exact ⟨bs, rfl, StOwn.of_laid HL.out HH.out (by omega), hb⟩
set_option maxHeartbeats 2000000 in
theorem to_store (a : Option Addr) (c : Nat) (l : Chs) (now : Int) (w : World) (hr : ChRow 0 w.heap.size w a l) (hbd : ChsBd 1048576 l) :
    Calls Try.prog 8 #[.agg #[.slice a l.length c, .int .i64 now]] w fun e w' => ∃ a' bs, e = .returned (.agg #[.slice a' l.length l.length, .int .i64 now]) ∧ StOwn w.heap.size w'.heap.size w' a' l bs ∧ Below w.heap.size w w' := by
  have K3 : Hid (∀ W0, Below w.heap.size w W0 → ChRow 0 W0.heap.size W0 a l) := fun W0 hB => ChRow.up hr hB
  have HD : Hid _ := hbd
  clear hr hbd
  go_enter Try.func8, Try.ntmps8
  go_wp2_with fail
  refine (to_Chs a c l _ (K3.out _ ?b0) HD.out).mono ?_
  case b0 => repeat (first | exact Below.refl _ _ | refine Below.setCell ?_ (by first | omega | (simp <;> omega)) _ | refine Below.alloc ?_ (by first | omega | (simp <;> omega)) _)
  rintro e w3 ⟨bs, rfl, A3, hb3⟩
  have hz3 : w.heap.size + 3 ≤ w3.heap.size := by have := hb3.size; simp at this; omega
  obtain ⟨a', ha'⟩ : ∃ a', a' = some (⟨w.heap.size + 1 + 1 + 1, 0, none⟩ : Addr) := ⟨_, rfl⟩
  have A3 : Hid (StOwn (w.heap.size + 3) w3.heap.size w3 a' l bs) := by
    rw [ha']
    exact StOwn.wide (by simpa using A3) (by first | omega | (simp <;> omega)) (Nat.le_refl _)
  have q3 : Below w.heap.size w w3 := by
    refine Below.trans ?_ (hb3.mono (by first | omega | (simp <;> omega)))
    repeat (first | exact Below.refl _ _ | refine Below.setCell ?_ (by first | omega | (simp <;> omega)) _ | refine Below.alloc ?_ (by first | omega | (simp <;> omega)) _)
  have k30 := fun o => hb3.cell (p := ⟨w.heap.size, o, none⟩) (by first | omega | (simp <;> omega))
  have k31 := fun o => hb3.cell (p := ⟨w.heap.size + 1, o, none⟩) (by first | omega | (simp <;> omega))
  have k32 := fun o => hb3.cell (p := ⟨w.heap.size + 1 + 1, o, none⟩) (by first | omega | (simp <;> omega))
  have j31 := fun o => hb3.frozen (p := ⟨w.heap.size + 1, o, none⟩) (by first | omega | (simp <;> omega))
  have j32 := fun o => hb3.frozen (p := ⟨w.heap.size + 1 + 1, o, none⟩) (by first | omega | (simp <;> omega))
  have Q3 : Hid _ := q3
  clear hb3 q3
  go_wp2_with fail
  refine bodyPost_ret (v := .agg #[.slice (some ⟨w.heap.size + 1 + 1 + 1, 0, none⟩) l.length l.length, .int .i64 now]) (by simp [results, Try.results8, go_sem, k31]) rfl ⟨a', bs, by rw [ha'], ?_⟩
  have G : ∀ W' : World, W'.heap.size = w3.heap.size → Agree (w.heap.size + 3) w3.heap.size w3 W' → Below w.heap.size w W' → StOwn w.heap.size W'.heap.size W' a' l bs ∧ Below w.heap.size w W' :=
    fun W' hw ha hB => ⟨StOwn.wide (StOwn.keep A3.out ha) (by omega) (by omega), hB⟩
  refine G _ (by simp) ?_ ?_
  · intro g h1 h2
    repeat rw [heap_set _ _ _ _ _ (by omega)]
  · repeat (refine Below.setCell ?_ (by first | omega | (simp <;> omega)) _)
    exact Q3.out
end Go.Proofs.Ytlfcjhiojbcijaa.G
