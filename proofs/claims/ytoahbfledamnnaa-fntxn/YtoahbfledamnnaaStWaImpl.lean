/- The program's WriteAll: faults, and nothing of nothing. -/
import Derived.Test.YtoahbfledamnnaaStTxOwn
import Derived.BigQuiet
import Derived.Test.YtoahbfledamnnaaStKids
import Derived.Deep.CutBlock
import Derived.Deep.CutRange
namespace Go.Proofs.Ytoahbfledamnnaa.G
open Go.ChangeShapes Go.WideShapes Go.ChangeAt Go.RowKit
set_option linter.unusedVariables false

theorem own_low2 {w : World} {base base' size n : Nat} {e : TypeId} {v : Value} {xs : List Value} (h : w.ownsRow base e size v n xs) (hb : base' ≤ base) : w.ownsRow base' e size v n xs := own_low h hb
theorem own_lt2 {w : World} {base size n : Nat} {e : TypeId} {v : Value} {xs : List Value} (h : w.ownsRow base e size v n xs) (g : Nat) (hg : v.ownBlock = some g) : g < w.heap.size := by
  rcases h.2 with ⟨e, _⟩ | ⟨g', cap, cur, e, h1, h2, _⟩
  · subst e; cases hg
  · subst e
    simp only [Value.ownBlock, Option.some.injEq] at hg
    subst hg
    exact (Array.getElem?_eq_some_iff.1 h2).1
theorem ownVe {w : World} {N g cap : Nat} {cur : Array Value} {l : List Ve} (hg : N ≤ g) (hh : w.heap[g]? = some (.cells cur 61 (0, 0))) (hc : l.length ≤ cap) (hm : cap ≤ maxLen) (hs : cur.size = cap * 2) (ht : cur.toList.take (l.length * 2) = veCells l) :
    w.ownsRow N 61 2 (.slice (some ⟨g, 0, none⟩) l.length cap) l.length (veCells l) :=
  ⟨veCells_len l, .inr ⟨g, cap, cur, rfl, hg, hh, hc, hm, hs, ht⟩⟩
set_option maxHeartbeats 2000000 in
theorem copy_own (a : Option Addr) (c : Nat) (l : List Ve) (w : World) (hr : VeRow 0 w.heap.size w a l) (hl : l.length ≤ 1048576) :
    Calls Try.prog 51 #[.slice a l.length c] w fun e w' => e = .returned (.slice (some ⟨w.heap.size, 0, none⟩) l.length l.length) ∧ w'.ownsRow w.heap.size 61 2 (.slice (some ⟨w.heap.size, 0, none⟩) l.length l.length) l.length (veCells l) ∧ Below w.heap.size w w' := by
  obtain ⟨i27, hi, hz, hsz, hby⟩ := info_Ve
  have hmk := run_make (P := Try.prog) w 58 61 i27 _ Try.underlying58 hi hz .i64 .i64 (l.length : Int) (l.length : Int) (by omega) (by omega) (by rw [hby]; omega) (by omega)
  rw [hsz, Int.toNat_natCast] at hmk
  clear hi hz hsz hby
  have hs0 := size_madeCells (Value.agg #[.int .i64 0, .int .i64 0]).cells (l.length * 2)
  generalize madeCells (Value.agg #[.int .i64 0, .int .i64 0]).cells (l.length * 2) = cs0 at *
  obtain ⟨V, hV⟩ : ∃ V, V = w.alloc (.cells cs0 61) := ⟨_, rfl⟩
  have bV : Below w.heap.size w V := by rw [hV]; exact (Below.refl _ _).alloc (Nat.le_refl _) _
  have cV : V.heap[w.heap.size]? = some (.cells cs0 61 (0, 0)) := by rw [hV]; exact heap_alloc_new _ _
  have hlm : l.length ≤ maxLen := by unfold maxLen; omega
  have hrun : ∃ W, (Builtin.copy_ #[58, 58] 3 #[.slice (some ⟨w.heap.size, 0, none⟩) l.length l.length, .slice a l.length c]).run Try.prog V = .ok (goInt l.length) W ∧ W.ownsRow w.heap.size 61 2 (.slice (some ⟨w.heap.size, 0, none⟩) l.length l.length) l.length (veCells l) ∧ Below w.heap.size w W := by
    by_cases h0 : l = []
    · subst h0
      exact ⟨V, run_copy_two0 V _ _ _ _ 0 0 _ _ _ _ Try.underlying58 infoS_Ve, ownVe (l := []) (Nat.le_refl _) cV (Nat.le_refl _) hlm (by simpa using hs0) (by simp [veCells]), bV⟩
    · rcases hr with h | ⟨b, o, rfl, _, hb, hx⟩
      · exact absurd h h0
      have hsrc := veCells_src (w := V) (b := b) (o := o) (l := l) (fun i x h => by
        have := hx i x h
        have e : rdOf V b = rdOf w b := (agree bV (Nat.le_refl _)).rd (Nat.zero_le _) hb
        rw [e]; exact this)
      have hlen := veCells_len l
      refine ⟨_, run_copy_two V _ _ _ _ w.heap.size 0 _ _ _ _ _ l.length cs0 _ (veCells l) Try.underlying58 infoS_Ve cV (Nat.min_self _) hlen hsrc (by omega) (veCells_one l), ?_, below_setRow bV (Nat.le_refl _) _⟩
      have hlist : (List.take 0 cs0.toList ++ veCells l ++ List.drop (0 + (veCells l).length) cs0.toList) = veCells l := by
        rw [List.drop_eq_nil_of_le (by simp; omega)]; simp
      rw [hlist]
      exact ownVe (Nat.le_refl _) (setRow_heap V w.heap.size cs0 _ _ _ cV) (Nat.le_refl _) hlm (by simp [hlen]) (by simp [← hlen])
  obtain ⟨W, hW, vW, bW⟩ := hrun
  have HV : Hid (W.ownsRow w.heap.size 61 2 (.slice (some ⟨w.heap.size, 0, none⟩) l.length l.length) l.length (veCells l) ∧ Below w.heap.size w W) := ⟨vW, bW⟩
  rw [hV] at hW
  clear hr vW bW bV cV hs0 hV
  go_enter Try.func51, Try.ntmps51
  go_wp2_with fail
  go_ret
  exact ⟨rfl, HV.out.1, HV.out.2⟩
/-- The first k chains of a store are laid, each in a block of its own behind N that may grow. -/
def PLaid (N : Nat) (w : World) (cs : Array Value) (l : Chs) (k : Nat) (bs : Nat → Nat) : Prop :=
  (∀ i x, i < k → l[i]? = some x → ∃ c, cs[i]? = some (.slice (some ⟨bs i, 0, none⟩) x.length c) ∧ N < bs i ∧ bs i < w.heap.size ∧ w.ownsRow N 61 2 (.slice (some ⟨bs i, 0, none⟩) x.length c) x.length (veCells x)) ∧ (∀ i j, i < k → j < k → i ≠ j → bs i ≠ bs j)
theorem PLaid.keep {N : Nat} {w w' : World} {cs : Array Value} {l : Chs} {k : Nat} {bs : Nat → Nat} (h : PLaid N w cs l k bs) (hs : w.heap.size ≤ w'.heap.size) (hk : Agree (N + 1) w.heap.size w w') : PLaid N w' cs l k bs := by
  refine ⟨fun i x hi hx => ?_, h.2⟩
  obtain ⟨c, h1, h3, h4, h5⟩ := h.1 i x hi hx
  refine ⟨c, h1, h3, by omega, own_set h5 (fun g hg => ?_)⟩
  simp only [Value.ownBlock, Option.some.injEq] at hg
  subst hg
  exact hk _ (by omega) h4
theorem PLaid.put {N : Nat} {w : World} {cs : Array Value} {l : Chs} {k : Nat} {bs : Nat → Nat} {g c : Nat} (h : PLaid N w cs l k bs) (hk : k < l.length) (hs : l.length ≤ cs.size) (hg1 : N < g) (hg2 : g < w.heap.size) (hv : w.ownsRow N 61 2 (.slice (some ⟨g, 0, none⟩) l[k].length c) l[k].length (veCells l[k])) (hn : ∀ i, i < k → bs i ≠ g) :
    PLaid N w (cs.setIfInBounds k (.slice (some ⟨g, 0, none⟩) l[k].length c)) l (k + 1) (bput bs k g) := by
  refine ⟨fun i x hi hx => ?_, fun i j hi hj hij => ?_⟩
  · by_cases hik : i = k
    · subst hik
      rw [List.getElem?_eq_getElem hk] at hx
      simp only [Option.some.injEq] at hx
      subst hx
      rw [bput_at]
      exact ⟨c, by simp [Array.getElem?_setIfInBounds]; omega, hg1, hg2, hv⟩
    · obtain ⟨c', h1, h3, h4, h5⟩ := h.1 i x (by omega) hx
      rw [bput_ne _ _ _ hik]
      exact ⟨c', by rw [Array.getElem?_setIfInBounds_ne (by omega)]; exact h1, h3, h4, h5⟩
  · by_cases hik : i = k
    · subst hik; rw [bput_at, bput_ne _ _ _ (by omega)]; exact (hn j (by omega)).symm
    · by_cases hjk : j = k
      · subst hjk; rw [bput_ne _ _ _ hik, bput_at]; exact hn i (by omega)
      · rw [bput_ne _ _ _ hik, bput_ne _ _ _ hjk]; exact h.2 i j (by omega) (by omega) hij
/-- A store's chains that a call writes: the row in block g, each chain in a block of its own that may grow. -/
def StP (lo : Nat) (w : World) (g : Nat) (l : Chs) (bs : Nat → Nat) : Prop :=
  ∃ cur, w.heap[g]? = some (.cells cur 58 (0, 0)) ∧ lo ≤ g ∧ l.length ≤ cur.size ∧
    (∀ i x, l[i]? = some x → ∃ c, cur[i]? = some (.slice (some ⟨bs i, 0, none⟩) x.length c) ∧ lo ≤ bs i ∧ bs i ≠ g ∧ bs i < w.heap.size ∧ w.ownsRow lo 61 2 (.slice (some ⟨bs i, 0, none⟩) x.length c) x.length (veCells x)) ∧
    (∀ i j, i < l.length → j < l.length → i ≠ j → bs i ≠ bs j)
theorem StP.of_laid {N : Nat} {w : World} {cs : Array Value} {l : Chs} {bs : Nat → Nat} (h : PLaid N w cs l l.length bs) (hh : w.heap[N]? = some (.cells cs 58 (0, 0))) (hs : l.length ≤ cs.size) : StP N w N l bs := by
  refine ⟨cs, hh, Nat.le_refl _, hs, fun i x hx => ?_, h.2⟩
  obtain ⟨c, h1, h3, h4, h5⟩ := h.1 i x (List.getElem?_eq_some_iff.1 hx).1 hx
  exact ⟨c, h1, by omega, by omega, h4, h5⟩
theorem StP.move {lo : Nat} {w w' : World} {g : Nat} {l : Chs} {bs : Nat → Nat} (h : StP lo w g l bs) (hs : w.heap.size ≤ w'.heap.size) (hk : ∀ k, lo ≤ k → k < w.heap.size → w'.heap[k]? = w.heap[k]?) : StP lo w' g l bs := by
  obtain ⟨cur, h1, h2, h3, h4, h5⟩ := h
  refine ⟨cur, (hk g h2 (Array.getElem?_eq_some_iff.1 h1).1).trans h1, h2, h3, fun i x hx => ?_, h5⟩
  obtain ⟨c, g1, g2, g3, g4, g5⟩ := h4 i x hx
  refine ⟨c, g1, g2, g3, by omega, own_set g5 (fun b hb => ?_)⟩
  simp only [Value.ownBlock, Option.some.injEq] at hb
  subst hb
  exact hk _ g2 g4
theorem StP.low {lo lo' : Nat} {w : World} {g : Nat} {l : Chs} {bs : Nat → Nat} (h : StP lo w g l bs) (hl : lo' ≤ lo) : StP lo' w g l bs := by
  obtain ⟨cur, h1, h2, h3, h4, h5⟩ := h
  refine ⟨cur, h1, by omega, h3, fun i x hx => ?_, h5⟩
  obtain ⟨c, g1, g2, g3, g4, g5⟩ := h4 i x hx
  exact ⟨c, g1, by omega, g3, g4, own_low2 g5 hl⟩
theorem blk_of {base g c : Nat} {w : World} {x : List Ve} (h : w.ownsRow base 61 2 (.slice (some ⟨g, 0, none⟩) x.length c) x.length (veCells x)) : x.length ≤ c ∧ VeBlk w g x := by
  rcases h.2 with ⟨e, h0⟩ | ⟨g', cap, cur, e, h1, h2, h3, h4, h5, h6⟩
  · cases e
  · simp only [Value.slice.injEq, Option.some.injEq, Addr.mk.injEq, and_true, true_and] at e
    obtain ⟨rfl, rfl⟩ := e
    refine ⟨h3, cur, h2, by omega, fun i y hy => ?_⟩
    obtain ⟨g0, g1⟩ := veCells_at x i y hy
    have hi := (List.getElem?_eq_some_iff.1 hy).1
    rw [← h6, List.getElem?_take, if_pos (by omega)] at g0 g1
    exact ⟨by simpa using g0, by simpa using g1⟩
theorem StP.own {lo : Nat} {w : World} {g : Nat} {l : Chs} {bs : Nat → Nat} (h : StP lo w g l bs) : StOwn lo w.heap.size w (some ⟨g, 0, none⟩) l bs := by
  obtain ⟨cur, h1, h2, h3, h4, h5⟩ := h
  refine ⟨g, cur, rfl, h2, (Array.getElem?_eq_some_iff.1 h1).1, h1, h3, fun i x hx => ?_, fun i j x y hx hy hij _ _ => h5 i j (List.getElem?_eq_some_iff.1 hx).1 (List.getElem?_eq_some_iff.1 hy).1 hij⟩
  obtain ⟨c, g1, g2, g3, g4, g5⟩ := h4 i x hx
  obtain ⟨q1, q2⟩ := blk_of g5
  exact ⟨_, c, g1, q1, fun _ => ⟨rfl, g2, g4, g3, q2⟩⟩
set_option maxHeartbeats 2000000 in
theorem of_chains_copy (a : Option Addr) (c : Nat) (l : Chs) (now : Int) (w : World) (hr : ChRow 0 w.heap.size w a l) (hbd : ChsBd 1048576 l) :
    Calls Try.prog 50 #[.agg #[.slice a l.length c, .int .i64 now], .func (.func 51) #[] #[]] w fun e w' =>
      ∃ bs, e = .returned (.slice (some ⟨w.heap.size + 1, 0, none⟩) l.length l.length) ∧ StP w.heap.size w' (w.heap.size + 1) l bs ∧ Below w.heap.size w w' := by
  obtain ⟨hl, ht⟩ := hbd
  obtain ⟨V, hV⟩ : ∃ V, V = w.alloc (.cells #[.slice a l.length c, .int .i64 now] 25) := ⟨_, rfl⟩
  have B0 : Below w.heap.size w V := by rw [hV]; exact (Below.refl _ _).alloc (Nat.le_refl _) _
  have zV : V.heap.size = w.heap.size + 1 := by rw [hV]; simp
  have HR : Hid (ChRow 0 V.heap.size V a l) := ChRow.up hr B0
  have HT : Hid (∀ x ∈ l, x.length ≤ 1048576) := ht
  have HB : Hid _ := B0
  clear hr ht B0
  obtain ⟨i27, hi, hz, hsz, hby⟩ := info_Ch
  have hmk := run_make (P := Try.prog) V 23 58 i27 _ Try.underlying23 hi hz .i64 .i64 (l.length : Int) (l.length : Int) (by omega) (by omega) (by rw [hby]; omega) (by omega)
  rw [hsz, Int.toNat_natCast, Nat.mul_one] at hmk
  clear hi hz hsz hby
  have hs0 := size_madeCells (Value.slice none 0 0).cells l.length
  generalize madeCells (Value.slice none 0 0).cells l.length = cs0 at *
  rw [hV] at hmk
  go_enter Try.func50, Try.ntmps50
  go_wp2_with fail
  have hN : V.heap.size = w.heap.size + 1 := zV
  rw [← hV]
  have hst : Below V.heap.size V (V.alloc (.cells cs0 58)) := (Below.refl _ _).alloc (Nat.le_refl _) _
  have hst2 : (V.alloc (.cells cs0 58)).heap[w.heap.size + 1]? = some (.cells cs0 58 (0, 0)) := by rw [← zV]; exact heap_alloc_new _ _
  have HST : Hid _ := hst2
  clear hst2 hmk
  go_loopw [15] (fun i w' => ∃ (k : Nat) (cs : Array Value) (bs : Nat → Nat), k ≤ l.length ∧ i = .int .i64 k ∧ Below V.heap.size V w' ∧ Hid (w'.heap[w.heap.size + 1]? = some (.cells cs 58 (0, 0))) ∧ cs.size = l.length ∧ Hid (PLaid (w.heap.size + 1) w' cs l k bs)) (fun i _ => l.length - (intOf i).toNat)
  case atStart => exact ⟨0, cs0, fun _ => 0, by omega, rfl, hst, HST, hs0, ⟨fun i x h => by omega, fun i j h => by omega⟩⟩
  case round =>
    obtain ⟨k, cs, bs, hk, rfl, hb, HH, hcs, HL⟩ := hrel
    obtain ⟨wo, rfl⟩ : ∃ x, x = wr := ⟨_, rfl⟩
    have hz := hb.size
    have hN2 : w.heap.size + 1 < wo.heap.size := (Array.getElem?_eq_some_iff.1 HH.out).1
    clear hs0 hst HST hV
    by_cases hlt : k < l.length
    · obtain ⟨b, o, a3, c3, ha, _, hbl, d0, hcap, r3⟩ := ChRow.cells (ChRow.keep HR.out (agree hb (Nat.le_refl _))) k hlt
      subst ha
      have R3 : Hid (VeRow 0 wo.heap.size wo a3 l[k]) := VeRow.wide r3 (Nat.le_refl _) hb.size
      have HX : Hid (l[k].length ≤ 1048576) := HT.out l[k] (List.getElem_mem hlt)
      clear r3
      go_wp2_with fail
      refine (copy_own a3 c3 l[k] _ R3.out HX.out).mono ?_
      rintro e w1 ⟨rfl, v1, hb1⟩
      have hz2 : wo.heap.size < w1.heap.size := own_lt2 v1 _ rfl
      have V1 : Hid _ := own_low2 (base' := w.heap.size + 1) v1 (by omega)
      have HH1 : Hid (w1.heap[w.heap.size + 1]? = some (.cells cs 58 (0, 0))) := (hb1.block _ hN2).trans HH.out
      have HL1 : Hid (PLaid (w.heap.size + 1) w1 cs l k bs) := PLaid.keep HL.out hb1.size (agree hb1 (Nat.le_refl _))
      have HNE : Hid (∀ i, i < k → bs i ≠ wo.heap.size) := fun i hi => by
        obtain ⟨_, _, _, h4, _⟩ := HL.out.1 i l[i] hi (List.getElem?_eq_getElem (by omega))
        omega
      obtain ⟨v0, hv0⟩ : ∃ v, w1.cell? ⟨w.heap.size + 1, k, none⟩ = some v := ⟨_, (row_cell HH1.out _).trans (Array.getElem?_eq_getElem (by omega))⟩
      have hf0 := row_frozen HH1.out k
      have qb : Hid (Below V.heap.size V w1) := hb.trans (hb1.mono hb.size)
      clear d0 v1 hb1
      go_wp2_with fail
      refine ⟨⟨k + 1, _, bput bs k wo.heap.size, by omega, by go_num, qb.out.setCell (by first | omega | (simp <;> omega)) _, row_set HH1.out _ _, by simp [hcs], ?_⟩, by simp [intOf]; omega⟩
      refine PLaid.put (g := wo.heap.size) (c := l[k].length) (PLaid.keep HL1.out (by simp) ?_) hlt (by omega) (by omega) (by simpa using hz2) (own_set V1.out ?_) HNE.out
      · intro g h1 h2
        exact heap_set _ _ _ _ _ (by omega)
      · intro g hg
        simp only [Value.ownBlock, Option.some.injEq] at hg
        subst hg
        exact heap_set _ _ _ _ _ (by omega)
    · go_wp2_with fail
      go_ret
      obtain rfl : k = l.length := by omega
      refine ⟨bs, rfl, ?_, HB.out.trans (hb.mono (by omega))⟩
      exact StP.low (StP.of_laid HL.out HH.out (by omega)) (by omega)
end Go.Proofs.Ytoahbfledamnnaa.G
namespace Go.Proofs.Ytoahbfledamnnaa.G
open Go.ChangeShapes Go.WideShapes Go.ChangeAt Go.RowKit
set_option linter.unusedVariables false

set_option maxHeartbeats 4000000 in
theorem impl_copyStore (a : Option Addr) (c : Nat) (l : Chs) (now : Int) (w : World) (hr : ChRow 0 w.heap.size w a l) (hbd : ChsBd 1048576 l) :
    Calls Try.prog 25 #[.agg #[.slice a l.length c, .int .i64 now]] w fun e w' =>
      ∃ g bs, e = .returned (.agg #[.slice (some ⟨g, 0, none⟩) l.length l.length, .int .i64 now]) ∧ StP w.heap.size w' g l bs ∧ Below w.heap.size w w' := by
  have HR : Hid (∀ W0, Below w.heap.size w W0 → ChRow 0 W0.heap.size W0 a l) := fun W0 hB => ChRow.up hr hB
  have HE : Hid _ := hbd
  clear hr hbd
  obtain ⟨V, hV⟩ : ∃ V, V = (w.alloc (.cells #[.slice a l.length c, .int .i64 now] 25)).alloc (.cells #[.slice none 0 0, .int .i64 0] 25) := ⟨_, rfl⟩
  have bV : Below w.heap.size w V := by
    rw [hV]
    repeat (first | exact Below.refl _ _ | refine Below.alloc ?_ (by first | omega | (simp <;> omega)) _)
  have zV : V.heap.size = w.heap.size + 2 := by rw [hV]; simp
  have c0 : V.heap[w.heap.size]? = some (.cells #[.slice a l.length c, .int .i64 now] 25 (0, 0)) := by
    rw [hV, Below.heap_alloc _ _ _ (by simp)]; exact heap_alloc_new _ _
  have c1 : V.heap[w.heap.size + 1]? = some (.cells #[.slice none 0 0, .int .i64 0] 25 (0, 0)) := by
    rw [hV]
    have := heap_alloc_new (w.alloc (.cells #[.slice a l.length c, .int .i64 now] 25)) (.cells #[.slice none 0 0, .int .i64 0] 25)
    simpa using this
  have KV : Hid (∀ W, Below V.heap.size V W → W.heap[w.heap.size]? = some (.cells #[.slice a l.length c, .int .i64 now] 25 (0, 0)) ∧ W.heap[w.heap.size + 1]? = some (.cells #[.slice none 0 0, .int .i64 0] 25 (0, 0)) ∧ Below w.heap.size w W) := fun W h =>
    ⟨(h.block _ (by omega)).trans c0, (h.block _ (by omega)).trans c1, bV.trans (h.mono (by omega))⟩
  have BV : Hid _ := bV
  have x0 := fun o => row_cell c0 o
  have x1 := fun o => row_cell c1 o
  have y1 := fun o => row_frozen c1 o
  clear c0 c1 bV
  go_enter Try.func25, Try.ntmps25
  go_wp2_with fail
  rw [← hV]
  clear hV
  go_region_with (go_at_call 50
                  refine Calls.mono (of_chains_copy a c l now _ (HR.out _ BV.out.drew) HE.out) ?_
                  rintro e w2 ⟨bs, rfl, p2, hb2⟩
                  have q2 : Hid (Below V.heap.size V w2) := (Below.refl _ _).drew.trans (hb2.mono (Nat.le_refl _))
                  have P2 : Hid (StP V.heap.size w2 (V.heap.size + 1) l bs) := p2
                  have z2 := hb2.size
                  have e0 := fun o => row_cell (KV.out _ q2.out).1 o
                  have e1 := fun o => row_cell (KV.out _ q2.out).2.1 o
                  have f1 := fun o => row_frozen (KV.out _ q2.out).2.1 o
                  clear p2 hb2)
  all_goals (try go_wp2_with fail)
  all_goals
    refine bodyPost_ret (v := .agg #[.slice (some ⟨V.heap.size + 1, 0, none⟩) l.length l.length, .int .i64 now]) (by simp [results, Try.results25, go_sem, e1]) rfl ⟨_, bs, rfl, ?_, ?_⟩
    · refine StP.low (StP.move P2.out (by simp) (fun k h1 h2 => ?_)) (by omega)
      repeat rw [heap_set _ _ _ _ _ (by omega)]
    · repeat (refine Below.setCell ?_ (by first | omega | (simp <;> omega)) _)
      exact (KV.out _ q2.out).2.2
end Go.Proofs.Ytoahbfledamnnaa.G
namespace Go.Proofs.Ytoahbfledamnnaa.G
open Go.ChangeShapes Go.WideShapes Go.ChangeAt Go.RowKit
set_option linter.unusedVariables false

set_option maxHeartbeats 4000000 in
theorem impl_wa_long (a pa : Option Addr) (c pc : Nat) (l : Chs) (ps : List Ve) (now : Int) (w : World) (hr : ChRow 0 w.heap.size w a l) (hp : VeRow 0 w.heap.size w pa ps) (hbd : ChsBd 1048576 l) (hpl : ps.length ≤ 1048576) (h1 : 4096 < ps.length) :
    Calls Try.prog 7 #[.agg #[.slice a l.length c, .int .i64 now], .slice pa ps.length pc] w fun e w' => e = .returned (.tuple #[.agg #[.slice none 0 0, .int .i64 0], .int .i64 0, .int .i64 2]) ∧ Below w.heap.size w w' := by
  have HR : Hid (∀ W0, Below w.heap.size w W0 → ChRow 0 W0.heap.size W0 a l) := fun W0 hB => ChRow.up hr hB
  have HP : Hid (∀ W0, Below w.heap.size w W0 → VeRow 0 W0.heap.size W0 pa ps) := fun W0 hB => VeRow.up hp hB
  have HE : Hid _ := hbd
  clear hr hp hbd
  obtain ⟨V, hV⟩ : ∃ V, V = (w.alloc (.cells #[.slice a l.length c, .int .i64 now] 25)).alloc (.cells #[.slice none 0 0, .int .i64 0] 25) := ⟨_, rfl⟩
  have bV : Below w.heap.size w V := by
    rw [hV]
    repeat (first | exact Below.refl _ _ | refine Below.alloc ?_ (by first | omega | (simp <;> omega)) _)
  have zV : V.heap.size = w.heap.size + 2 := by rw [hV]; simp
  have c0 : V.heap[w.heap.size]? = some (.cells #[.slice a l.length c, .int .i64 now] 25 (0, 0)) := by
    rw [hV, Below.heap_alloc _ _ _ (by simp)]; exact heap_alloc_new _ _
  have c1 : V.heap[w.heap.size + 1]? = some (.cells #[.slice none 0 0, .int .i64 0] 25 (0, 0)) := by
    rw [hV]
    have := heap_alloc_new (w.alloc (.cells #[.slice a l.length c, .int .i64 now] 25)) (.cells #[.slice none 0 0, .int .i64 0] 25)
    simpa using this
  have KV : Hid (∀ W, Below V.heap.size V W → W.heap[w.heap.size]? = some (.cells #[.slice a l.length c, .int .i64 now] 25 (0, 0)) ∧ W.heap[w.heap.size + 1]? = some (.cells #[.slice none 0 0, .int .i64 0] 25 (0, 0)) ∧ Below w.heap.size w W) := fun W h =>
    ⟨(h.block _ (by omega)).trans c0, (h.block _ (by omega)).trans c1, bV.trans (h.mono (by omega))⟩
  have BV : Hid _ := bV
  have x0 := fun o => row_cell c0 o
  have x1 := fun o => row_cell c1 o
  have y1 := fun o => row_frozen c1 o
  clear c0 c1 bV
  go_enter Try.func7, Try.ntmps7
  go_upto_block 1 with fail
  rw [← hV]
  clear hV
  have h1' : (4096 : Int) < ps.length := by omega
  clear h1
  go_wp2_with fail
  refine bodyPost_ret (v := .tuple #[.agg #[.slice none 0 0, .int .i64 0], .int .i64 0, .int .i64 2]) (by simp [results, Try.results7, go_sem, x1]) rfl ⟨rfl, ?_⟩
  repeat (refine Below.setCell ?_ (by first | omega | (simp <;> omega)) _)
  exact (KV.out _ (Below.refl _ _)).2.2
set_option maxHeartbeats 4000000 in
theorem impl_wa_bad (a pa : Option Addr) (c pc : Nat) (l : Chs) (ps : List Ve) (now : Int) (w : World) (hr : ChRow 0 w.heap.size w a l) (hp : VeRow 0 w.heap.size w pa ps) (hbd : ChsBd 1048576 l) (hpl : ps.length ≤ 1048576) (h1 : ps.length ≤ 4096) (h2 : storeB l now = false) :
    Calls Try.prog 7 #[.agg #[.slice a l.length c, .int .i64 now], .slice pa ps.length pc] w fun e w' => e = .returned (.tuple #[.agg #[.slice none 0 0, .int .i64 0], .int .i64 0, .int .i64 1]) ∧ Below w.heap.size w w' := by
  have HR : Hid (∀ W0, Below w.heap.size w W0 → ChRow 0 W0.heap.size W0 a l) := fun W0 hB => ChRow.up hr hB
  have HP : Hid (∀ W0, Below w.heap.size w W0 → VeRow 0 W0.heap.size W0 pa ps) := fun W0 hB => VeRow.up hp hB
  have HE : Hid _ := hbd
  clear hr hp hbd
  obtain ⟨V, hV⟩ : ∃ V, V = (w.alloc (.cells #[.slice a l.length c, .int .i64 now] 25)).alloc (.cells #[.slice none 0 0, .int .i64 0] 25) := ⟨_, rfl⟩
  have bV : Below w.heap.size w V := by
    rw [hV]
    repeat (first | exact Below.refl _ _ | refine Below.alloc ?_ (by first | omega | (simp <;> omega)) _)
  have zV : V.heap.size = w.heap.size + 2 := by rw [hV]; simp
  have c0 : V.heap[w.heap.size]? = some (.cells #[.slice a l.length c, .int .i64 now] 25 (0, 0)) := by
    rw [hV, Below.heap_alloc _ _ _ (by simp)]; exact heap_alloc_new _ _
  have c1 : V.heap[w.heap.size + 1]? = some (.cells #[.slice none 0 0, .int .i64 0] 25 (0, 0)) := by
    rw [hV]
    have := heap_alloc_new (w.alloc (.cells #[.slice a l.length c, .int .i64 now] 25)) (.cells #[.slice none 0 0, .int .i64 0] 25)
    simpa using this
  have KV : Hid (∀ W, Below V.heap.size V W → W.heap[w.heap.size]? = some (.cells #[.slice a l.length c, .int .i64 now] 25 (0, 0)) ∧ W.heap[w.heap.size + 1]? = some (.cells #[.slice none 0 0, .int .i64 0] 25 (0, 0)) ∧ Below w.heap.size w W) := fun W h =>
    ⟨(h.block _ (by omega)).trans c0, (h.block _ (by omega)).trans c1, bV.trans (h.mono (by omega))⟩
  have BV : Hid _ := bV
  have x0 := fun o => row_cell c0 o
  have x1 := fun o => row_cell c1 o
  have y1 := fun o => row_frozen c1 o
  clear c0 c1 bV
  go_enter Try.func7, Try.ntmps7
  go_upto_block 1 with fail
  rw [← hV]
  clear hV
  have h1' : ¬ (4096 : Int) < ps.length := by omega
  clear h1
  have H2 : Hid _ := h2
  clear h2
  go_wp2_with fail
  refine (impl_storeOK a c l now _ (HR.out _ BV.out) HE.out).mono ?_
  rintro e w1 ⟨rfl, hb1⟩
  rw [H2.out]
  have q1 : Hid (Below V.heap.size V w1) := hb1
  have x1 := fun o => row_cell (KV.out _ q1.out).1 o
  have r1 := fun o => row_cell (KV.out _ q1.out).2.1 o
  have y1 := fun o => row_frozen (KV.out _ q1.out).2.1 o
  have z1 := hb1.size
  clear hb1
  clear x0
  go_wp2_with fail
  refine bodyPost_ret (v := .tuple #[.agg #[.slice none 0 0, .int .i64 0], .int .i64 0, .int .i64 1]) (by simp [results, Try.results7, go_sem, r1]) rfl ⟨rfl, ?_⟩
  repeat (refine Below.setCell ?_ (by first | omega | (simp <;> omega)) _)
  exact (KV.out _ q1.out).2.2
set_option maxHeartbeats 4000000 in
theorem impl_wa_range (a pa : Option Addr) (c pc : Nat) (l : Chs) (ps : List Ve) (now : Int) (w : World) (hr : ChRow 0 w.heap.size w a l) (hp : VeRow 0 w.heap.size w pa ps) (hbd : ChsBd 1048576 l) (hpl : ps.length ≤ 1048576) (h1 : ps.length ≤ 4096) (h2 : storeB l now = true) (h3 : putsB ps = false) :
    Calls Try.prog 7 #[.agg #[.slice a l.length c, .int .i64 now], .slice pa ps.length pc] w fun e w' => e = .returned (.tuple #[.agg #[.slice none 0 0, .int .i64 0], .int .i64 0, .int .i64 4]) ∧ Below w.heap.size w w' := by
  have HR : Hid (∀ W0, Below w.heap.size w W0 → ChRow 0 W0.heap.size W0 a l) := fun W0 hB => ChRow.up hr hB
  have HP : Hid (∀ W0, Below w.heap.size w W0 → VeRow 0 W0.heap.size W0 pa ps) := fun W0 hB => VeRow.up hp hB
  have HE : Hid _ := hbd
  clear hr hp hbd
  obtain ⟨V, hV⟩ : ∃ V, V = (w.alloc (.cells #[.slice a l.length c, .int .i64 now] 25)).alloc (.cells #[.slice none 0 0, .int .i64 0] 25) := ⟨_, rfl⟩
  have bV : Below w.heap.size w V := by
    rw [hV]
    repeat (first | exact Below.refl _ _ | refine Below.alloc ?_ (by first | omega | (simp <;> omega)) _)
  have zV : V.heap.size = w.heap.size + 2 := by rw [hV]; simp
  have c0 : V.heap[w.heap.size]? = some (.cells #[.slice a l.length c, .int .i64 now] 25 (0, 0)) := by
    rw [hV, Below.heap_alloc _ _ _ (by simp)]; exact heap_alloc_new _ _
  have c1 : V.heap[w.heap.size + 1]? = some (.cells #[.slice none 0 0, .int .i64 0] 25 (0, 0)) := by
    rw [hV]
    have := heap_alloc_new (w.alloc (.cells #[.slice a l.length c, .int .i64 now] 25)) (.cells #[.slice none 0 0, .int .i64 0] 25)
    simpa using this
  have KV : Hid (∀ W, Below V.heap.size V W → W.heap[w.heap.size]? = some (.cells #[.slice a l.length c, .int .i64 now] 25 (0, 0)) ∧ W.heap[w.heap.size + 1]? = some (.cells #[.slice none 0 0, .int .i64 0] 25 (0, 0)) ∧ Below w.heap.size w W) := fun W h =>
    ⟨(h.block _ (by omega)).trans c0, (h.block _ (by omega)).trans c1, bV.trans (h.mono (by omega))⟩
  have BV : Hid _ := bV
  have x0 := fun o => row_cell c0 o
  have x1 := fun o => row_cell c1 o
  have y1 := fun o => row_frozen c1 o
  clear c0 c1 bV
  go_enter Try.func7, Try.ntmps7
  go_upto_block 1 with fail
  rw [← hV]
  clear hV
  have h1' : ¬ (4096 : Int) < ps.length := by omega
  clear h1
  have H2 : Hid _ := h2
  have H3 : Hid _ := h3
  clear h2 h3
  go_wp2_with fail
  refine (impl_storeOK a c l now _ (HR.out _ BV.out) HE.out).mono ?_
  rintro e w1 ⟨rfl, hb1⟩
  rw [H2.out]
  have q1 : Hid (Below V.heap.size V w1) := hb1
  have x1 := fun o => row_cell (KV.out _ q1.out).1 o
  have r1 := fun o => row_cell (KV.out _ q1.out).2.1 o
  have y1 := fun o => row_frozen (KV.out _ q1.out).2.1 o
  have z1 := hb1.size
  clear hb1
  go_wp2_with fail
  refine (impl_putsOK pa pc ps _ (HP.out _ (KV.out _ q1.out).2.2) hpl).mono ?_
  rintro e w2 ⟨rfl, hb2⟩
  rw [H3.out]
  have q2 : Hid (Below V.heap.size V w2) := q1.out.trans (hb2.mono (by omega))
  have x2 := fun o => row_cell (KV.out _ q2.out).1 o
  have r2 := fun o => row_cell (KV.out _ q2.out).2.1 o
  have y2 := fun o => row_frozen (KV.out _ q2.out).2.1 o
  have z2 := hb2.size
  clear hb2
  clear x0
  go_wp2_with fail
  refine bodyPost_ret (v := .tuple #[.agg #[.slice none 0 0, .int .i64 0], .int .i64 0, .int .i64 4]) (by simp [results, Try.results7, go_sem, r2]) rfl ⟨rfl, ?_⟩
  repeat (refine Below.setCell ?_ (by first | omega | (simp <;> omega)) _)
  exact (KV.out _ q2.out).2.2
set_option maxHeartbeats 4000000 in
theorem impl_wa_full (a pa : Option Addr) (c pc : Nat) (l : Chs) (ps : List Ve) (now : Int) (w : World) (hr : ChRow 0 w.heap.size w a l) (hp : VeRow 0 w.heap.size w pa ps) (hbd : ChsBd 1048576 l) (hpl : ps.length ≤ 1048576) (h1 : ps.length ≤ 4096) (h2 : storeB l now = true) (h3 : putsB ps = true) (h4 : now = 100000) :
    Calls Try.prog 7 #[.agg #[.slice a l.length c, .int .i64 now], .slice pa ps.length pc] w fun e w' => ∃ g bs, e = .returned (.tuple #[.agg #[.slice (some ⟨g, 0, none⟩) l.length l.length, .int .i64 now], .int .i64 0, .int .i64 7]) ∧ StP w.heap.size w' g l bs ∧ Below w.heap.size w w' := by
  have h4' : (now == 100000) = true := by simpa using h4
  clear h4
  have HR : Hid (∀ W0, Below w.heap.size w W0 → ChRow 0 W0.heap.size W0 a l) := fun W0 hB => ChRow.up hr hB
  have HP : Hid (∀ W0, Below w.heap.size w W0 → VeRow 0 W0.heap.size W0 pa ps) := fun W0 hB => VeRow.up hp hB
  have HE : Hid _ := hbd
  clear hr hp hbd
  obtain ⟨V, hV⟩ : ∃ V, V = (w.alloc (.cells #[.slice a l.length c, .int .i64 now] 25)).alloc (.cells #[.slice none 0 0, .int .i64 0] 25) := ⟨_, rfl⟩
  have bV : Below w.heap.size w V := by
    rw [hV]
    repeat (first | exact Below.refl _ _ | refine Below.alloc ?_ (by first | omega | (simp <;> omega)) _)
  have zV : V.heap.size = w.heap.size + 2 := by rw [hV]; simp
  have c0 : V.heap[w.heap.size]? = some (.cells #[.slice a l.length c, .int .i64 now] 25 (0, 0)) := by
    rw [hV, Below.heap_alloc _ _ _ (by simp)]; exact heap_alloc_new _ _
  have c1 : V.heap[w.heap.size + 1]? = some (.cells #[.slice none 0 0, .int .i64 0] 25 (0, 0)) := by
    rw [hV]
    have := heap_alloc_new (w.alloc (.cells #[.slice a l.length c, .int .i64 now] 25)) (.cells #[.slice none 0 0, .int .i64 0] 25)
    simpa using this
  have KV : Hid (∀ W, Below V.heap.size V W → W.heap[w.heap.size]? = some (.cells #[.slice a l.length c, .int .i64 now] 25 (0, 0)) ∧ W.heap[w.heap.size + 1]? = some (.cells #[.slice none 0 0, .int .i64 0] 25 (0, 0)) ∧ Below w.heap.size w W) := fun W h =>
    ⟨(h.block _ (by omega)).trans c0, (h.block _ (by omega)).trans c1, bV.trans (h.mono (by omega))⟩
  have BV : Hid _ := bV
  have x0 := fun o => row_cell c0 o
  have x1 := fun o => row_cell c1 o
  have y1 := fun o => row_frozen c1 o
  clear c0 c1 bV
  go_enter Try.func7, Try.ntmps7
  go_upto_block 1 with fail
  rw [← hV]
  clear hV
  have h1' : ¬ (4096 : Int) < ps.length := by omega
  clear h1
  have H2 : Hid _ := h2
  have H3 : Hid _ := h3
  clear h2 h3
  go_wp2_with fail
  refine (impl_storeOK a c l now _ (HR.out _ BV.out) HE.out).mono ?_
  rintro e w1 ⟨rfl, hb1⟩
  rw [H2.out]
  have q1 : Hid (Below V.heap.size V w1) := hb1
  have x1 := fun o => row_cell (KV.out _ q1.out).1 o
  have r1 := fun o => row_cell (KV.out _ q1.out).2.1 o
  have y1 := fun o => row_frozen (KV.out _ q1.out).2.1 o
  have z1 := hb1.size
  clear hb1
  clear x0 x1 y1
  go_wp2_with fail
  refine (impl_putsOK pa pc ps _ (HP.out _ (KV.out _ q1.out).2.2) hpl).mono ?_
  rintro e w2 ⟨rfl, hb2⟩
  rw [H3.out]
  have q2 : Hid (Below V.heap.size V w2) := q1.out.trans (hb2.mono (by omega))
  have x2 := fun o => row_cell (KV.out _ q2.out).1 o
  have r2 := fun o => row_cell (KV.out _ q2.out).2.1 o
  have y2 := fun o => row_frozen (KV.out _ q2.out).2.1 o
  have z2 := hb2.size
  clear hb2

  go_wp2_with fail
  refine (impl_copyStore a c l now _ (HR.out _ (KV.out _ q2.out).2.2) HE.out).mono ?_
  rintro e w3 ⟨g, bs, rfl, p3, hb3⟩
  have P3 : Hid (StP w2.heap.size w3 g l bs) := p3
  clear p3
  have q3 : Hid (Below V.heap.size V w3) := q2.out.trans (hb3.mono (by omega))
  have x3 := fun o => row_cell (KV.out _ q3.out).1 o
  have r3 := fun o => row_cell (KV.out _ q3.out).2.1 o
  have y3 := fun o => row_frozen (KV.out _ q3.out).2.1 o
  have z3 := hb3.size
  clear hb3
  go_wp2_with fail
  refine bodyPost_ret (v := .tuple #[.agg #[.slice (some ⟨g, 0, none⟩) l.length l.length, .int .i64 now], .int .i64 0, .int .i64 7]) (by simp [results, Try.results7, go_sem, r3]) rfl ⟨g, bs, rfl, ?_, ?_⟩
  · refine StP.low (StP.move P3.out (by simp) (fun k h1 h2 => ?_)) (by omega)
    repeat rw [heap_set _ _ _ _ _ (by omega)]
  · repeat (refine Below.setCell ?_ (by first | omega | (simp <;> omega)) _)
    exact (KV.out _ q3.out).2.2
set_option maxHeartbeats 8000000 in
theorem impl_wa_nil (a pa : Option Addr) (c pc : Nat) (l : Chs) (ps : List Ve) (now : Int) (w : World) (hr : ChRow 0 w.heap.size w a l) (hp : VeRow 0 w.heap.size w pa ps) (hbd : ChsBd 1048576 l) (hpl : ps.length ≤ 1048576) (h1 : ps.length = 0) (h2 : storeB l now = true) (h3 : putsB ps = true) (h4 : now ≠ 100000) :
    Calls Try.prog 7 #[.agg #[.slice a l.length c, .int .i64 now], .slice pa ps.length pc] w fun e w' => ∃ g bs, e = .returned (.tuple #[.agg #[.slice (some ⟨g, 0, none⟩) l.length l.length, .int .i64 now], .int .i64 now, .int .i64 0]) ∧ StP w.heap.size w' g l bs ∧ Below w.heap.size w w' := by
  have h4' : (now == 100000) = false := by simpa using h4
  clear h4
  have HR : Hid (∀ W0, Below w.heap.size w W0 → ChRow 0 W0.heap.size W0 a l) := fun W0 hB => ChRow.up hr hB
  have HP : Hid (∀ W0, Below w.heap.size w W0 → VeRow 0 W0.heap.size W0 pa ps) := fun W0 hB => VeRow.up hp hB
  have HE : Hid _ := hbd
  clear hr hp hbd
  obtain ⟨V, hV⟩ : ∃ V, V = (w.alloc (.cells #[.slice a l.length c, .int .i64 now] 25)).alloc (.cells #[.slice none 0 0, .int .i64 0] 25) := ⟨_, rfl⟩
  have bV : Below w.heap.size w V := by
    rw [hV]
    repeat (first | exact Below.refl _ _ | refine Below.alloc ?_ (by first | omega | (simp <;> omega)) _)
  have zV : V.heap.size = w.heap.size + 2 := by rw [hV]; simp
  have c0 : V.heap[w.heap.size]? = some (.cells #[.slice a l.length c, .int .i64 now] 25 (0, 0)) := by
    rw [hV, Below.heap_alloc _ _ _ (by simp)]; exact heap_alloc_new _ _
  have c1 : V.heap[w.heap.size + 1]? = some (.cells #[.slice none 0 0, .int .i64 0] 25 (0, 0)) := by
    rw [hV]
    have := heap_alloc_new (w.alloc (.cells #[.slice a l.length c, .int .i64 now] 25)) (.cells #[.slice none 0 0, .int .i64 0] 25)
    simpa using this
  have KV : Hid (∀ W, Below V.heap.size V W → W.heap[w.heap.size]? = some (.cells #[.slice a l.length c, .int .i64 now] 25 (0, 0)) ∧ W.heap[w.heap.size + 1]? = some (.cells #[.slice none 0 0, .int .i64 0] 25 (0, 0)) ∧ Below w.heap.size w W) := fun W h =>
    ⟨(h.block _ (by omega)).trans c0, (h.block _ (by omega)).trans c1, bV.trans (h.mono (by omega))⟩
  have BV : Hid _ := bV
  have x0 := fun o => row_cell c0 o
  have x1 := fun o => row_cell c1 o
  have y1 := fun o => row_frozen c1 o
  clear c0 c1 bV
  go_enter Try.func7, Try.ntmps7
  go_upto_block 1 with fail
  rw [← hV]
  clear hV
  have h1' : ¬ (4096 : Int) < ps.length := by omega
  have h0' : ((ps.length : Int) == 0) = true := by rw [h1]; rfl
  clear h1
  have H2 : Hid _ := h2
  have H3 : Hid _ := h3
  clear h2 h3
  go_wp2_with fail
  refine (impl_storeOK a c l now _ (HR.out _ BV.out) HE.out).mono ?_
  rintro e w1 ⟨rfl, hb1⟩
  rw [H2.out]
  have q1 : Hid (Below V.heap.size V w1) := hb1
  have x1 := fun o => row_cell (KV.out _ q1.out).1 o
  have r1 := fun o => row_cell (KV.out _ q1.out).2.1 o
  have y1 := fun o => row_frozen (KV.out _ q1.out).2.1 o
  have z1 := hb1.size
  clear hb1
  clear x0 x1 y1
  go_wp2_with fail
  refine (impl_putsOK pa pc ps _ (HP.out _ (KV.out _ q1.out).2.2) hpl).mono ?_
  rintro e w2 ⟨rfl, hb2⟩
  rw [H3.out]
  have q2 : Hid (Below V.heap.size V w2) := q1.out.trans (hb2.mono (by omega))
  have x2 := fun o => row_cell (KV.out _ q2.out).1 o
  have r2 := fun o => row_cell (KV.out _ q2.out).2.1 o
  have y2 := fun o => row_frozen (KV.out _ q2.out).2.1 o
  have z2 := hb2.size
  clear hb2

  go_upto_region 10 with fail
  go_region_with (go_at_call 25
                  refine Calls.mono (impl_copyStore a c l now _ (HR.out _ (KV.out _ q2.out.drew).2.2) HE.out) ?_
                  rintro e w3 ⟨g, bs, rfl, p3, hb3⟩
                  have P3 : Hid (StP w2.heap.size w3 g l bs) := p3
                  have q3 : Hid (Below V.heap.size V w3) := q2.out.drew.trans (hb3.mono (by have := q2.out.size; first | omega | (simp <;> omega)))
                  have z3 := hb3.size
                  have x3 := fun o => row_cell (KV.out _ q3.out).1 o
                  have r3 := fun o => row_cell (KV.out _ q3.out).2.1 o
                  have y3 := fun o => row_frozen (KV.out _ q3.out).2.1 o
                  clear p3 hb3)
  all_goals (try go_wp2_with fail)
  all_goals
    refine bodyPost_ret (v := .tuple #[.agg #[.slice (some ⟨g, 0, none⟩) l.length l.length, .int .i64 now], .int .i64 now, .int .i64 0]) (by simp [results, Try.results7, go_sem, r3]) rfl ⟨g, bs, rfl, ?_, ?_⟩
    · refine StP.low (StP.move P3.out (by simp) (fun k h1 h2 => ?_)) (by omega)
      repeat rw [heap_set _ _ _ _ _ (by omega)]
    · repeat (refine Below.setCell ?_ (by first | omega | (simp <;> omega)) _)
      exact (KV.out _ q3.out).2.2
end Go.Proofs.Ytoahbfledamnnaa.G
