/- The program's copy of a store: each chain in a block of its own that is as long as it. -/
import Derived.Test.YtljnhecdelimfaaStWrSpec
namespace Go.Proofs.Ytljnhecdelimfaa.G
open Go.ChangeShapes Go.WideShapes Go.ChangeAt Go.RowKit
set_option linter.unusedVariables false

theorem own_low2 {w : World} {base base' size n : Nat} {e : TypeId} {v : Value} {xs : List Value} (h : w.ownsRow base e size v n xs) (hb : base' ≤ base) : w.ownsRow base' e size v n xs := own_low h hb
theorem own_lt2 {w : World} {base size n : Nat} {e : TypeId} {v : Value} {xs : List Value} (h : w.ownsRow base e size v n xs) (g : Nat) (hg : v.ownBlock = some g) : g < w.heap.size := by
  rcases h.2 with ⟨e, _⟩ | ⟨g', cap, cur, e, h1, h2, _⟩
  · subst e; cases hg
  · subst e
    simp only [Value.ownBlock, Option.some.injEq] at hg
    subst hg
    exact (Array.getElem?_eq_some_iff.1 h2).1
theorem ownVe {w : World} {N g cap : Nat} {cur : Array Value} {l : List Ve} (hg : N ≤ g) (hh : w.heap[g]? = some (.cells cur 54 (0, 0))) (hc : l.length ≤ cap) (hm : cap ≤ maxLen) (hs : cur.size = cap * 2) (ht : cur.toList.take (l.length * 2) = veCells l) :
    w.ownsRow N 54 2 (.slice (some ⟨g, 0, none⟩) l.length cap) l.length (veCells l) :=
  ⟨veCells_len l, .inr ⟨g, cap, cur, rfl, hg, hh, hc, hm, hs, ht⟩⟩
set_option maxHeartbeats 2000000 in
theorem copy_own (a : Option Addr) (c : Nat) (l : List Ve) (w : World) (hr : VeRow 0 w.heap.size w a l) (hl : l.length ≤ 1048576) :
    Calls Try.prog 46 #[.slice a l.length c] w fun e w' => e = .returned (.slice (some ⟨w.heap.size, 0, none⟩) l.length l.length) ∧ w'.ownsRow w.heap.size 54 2 (.slice (some ⟨w.heap.size, 0, none⟩) l.length l.length) l.length (veCells l) ∧ Below w.heap.size w w' := by
  obtain ⟨i27, hi, hz, hsz, hby⟩ := info_Ve
  have hmk := run_make (P := Try.prog) w 51 54 i27 _ Try.underlying51 hi hz .i64 .i64 (l.length : Int) (l.length : Int) (by omega) (by omega) (by rw [hby]; omega) (by omega)
  rw [hsz, Int.toNat_natCast] at hmk
  clear hi hz hsz hby
  have hs0 := size_madeCells (Value.agg #[.int .i64 0, .int .i64 0]).cells (l.length * 2)
  generalize madeCells (Value.agg #[.int .i64 0, .int .i64 0]).cells (l.length * 2) = cs0 at *
  obtain ⟨V, hV⟩ : ∃ V, V = w.alloc (.cells cs0 54) := ⟨_, rfl⟩
  have bV : Below w.heap.size w V := by rw [hV]; exact (Below.refl _ _).alloc (Nat.le_refl _) _
  have cV : V.heap[w.heap.size]? = some (.cells cs0 54 (0, 0)) := by rw [hV]; exact heap_alloc_new _ _
  have hlm : l.length ≤ maxLen := by unfold maxLen; omega
  have hrun : ∃ W, (Builtin.copy_ #[51, 51] 3 #[.slice (some ⟨w.heap.size, 0, none⟩) l.length l.length, .slice a l.length c]).run Try.prog V = .ok (goInt l.length) W ∧ W.ownsRow w.heap.size 54 2 (.slice (some ⟨w.heap.size, 0, none⟩) l.length l.length) l.length (veCells l) ∧ Below w.heap.size w W := by
    by_cases h0 : l = []
    · subst h0
      exact ⟨V, run_copy_two0 V _ _ _ _ 0 0 _ _ _ _ Try.underlying51 infoS_Ve, ownVe (l := []) (Nat.le_refl _) cV (Nat.le_refl _) hlm (by simpa using hs0) (by simp [veCells]), bV⟩
    · rcases hr with h | ⟨b, o, rfl, _, hb, hx⟩
      · exact absurd h h0
      have hsrc := veCells_src (w := V) (b := b) (o := o) (l := l) (fun i x h => by
        have := hx i x h
        have e : rdOf V b = rdOf w b := (agree bV (Nat.le_refl _)).rd (Nat.zero_le _) hb
        rw [e]; exact this)
      have hlen := veCells_len l
      refine ⟨_, run_copy_two V _ _ _ _ w.heap.size 0 _ _ _ _ _ l.length cs0 _ (veCells l) Try.underlying51 infoS_Ve cV (Nat.min_self _) hlen hsrc (by omega) (veCells_one l), ?_, below_setRow bV (Nat.le_refl _) _⟩
      have hlist : (List.take 0 cs0.toList ++ veCells l ++ List.drop (0 + (veCells l).length) cs0.toList) = veCells l := by
        rw [List.drop_eq_nil_of_le (by simp; omega)]; simp
      rw [hlist]
      exact ownVe (Nat.le_refl _) (setRow_heap V w.heap.size cs0 _ _ _ cV) (Nat.le_refl _) hlm (by simp [hlen]) (by simp [← hlen])
  obtain ⟨W, hW, vW, bW⟩ := hrun
  have HV : Hid (W.ownsRow w.heap.size 54 2 (.slice (some ⟨w.heap.size, 0, none⟩) l.length l.length) l.length (veCells l) ∧ Below w.heap.size w W) := ⟨vW, bW⟩
  rw [hV] at hW
  clear hr vW bW bV cV hs0 hV
  go_enter Try.func46, Try.ntmps46
  go_wp2_with fail
  go_ret
  exact ⟨rfl, HV.out.1, HV.out.2⟩
/-- The first k chains of a store are laid, each in a block of its own behind N that may grow. -/
def PLaid (N : Nat) (w : World) (cs : Array Value) (l : Chs) (k : Nat) (bs : Nat → Nat) : Prop :=
  (∀ i x, i < k → l[i]? = some x → ∃ c, cs[i]? = some (.slice (some ⟨bs i, 0, none⟩) x.length c) ∧ N < bs i ∧ bs i < w.heap.size ∧ w.ownsRow N 54 2 (.slice (some ⟨bs i, 0, none⟩) x.length c) x.length (veCells x)) ∧ (∀ i j, i < k → j < k → i ≠ j → bs i ≠ bs j)
theorem PLaid.keep {N : Nat} {w w' : World} {cs : Array Value} {l : Chs} {k : Nat} {bs : Nat → Nat} (h : PLaid N w cs l k bs) (hs : w.heap.size ≤ w'.heap.size) (hk : Agree (N + 1) w.heap.size w w') : PLaid N w' cs l k bs := by
  refine ⟨fun i x hi hx => ?_, h.2⟩
  obtain ⟨c, h1, h3, h4, h5⟩ := h.1 i x hi hx
  refine ⟨c, h1, h3, by omega, own_set h5 (fun g hg => ?_)⟩
  simp only [Value.ownBlock, Option.some.injEq] at hg
  subst hg
  exact hk _ (by omega) h4
theorem PLaid.put {N : Nat} {w : World} {cs : Array Value} {l : Chs} {k : Nat} {bs : Nat → Nat} {g c : Nat} (h : PLaid N w cs l k bs) (hk : k < l.length) (hs : l.length ≤ cs.size) (hg1 : N < g) (hg2 : g < w.heap.size) (hv : w.ownsRow N 54 2 (.slice (some ⟨g, 0, none⟩) l[k].length c) l[k].length (veCells l[k])) (hn : ∀ i, i < k → bs i ≠ g) :
    PLaid N w (cs.setIfInBounds k (.slice (some ⟨g, 0, none⟩) l[k].length c)) l (k + 1) (bput bs k g) := by
  refine ⟨fun i x hi hx => ?_, fun i j hi hj hij => ?_⟩
  · by_cases hik : i = k
    · subst hik
      rw [List.getElem?_eq_getElem hk] at hx
      simp only [Option.some.injEq] at hx
      subst hx
      rw [bput_at]
      exact ⟨c, by simp [Array.getElem?_setIfInBounds]; omega, hg1, hg2, hv⟩
    · obtain ⟨c', h1, h3, h4, h5⟩ := h.1 i x (by omega) hx
      rw [bput_ne _ _ _ hik]
      exact ⟨c', by rw [Array.getElem?_setIfInBounds_ne (by omega)]; exact h1, h3, h4, h5⟩
  · by_cases hik : i = k
    · subst hik; rw [bput_at, bput_ne _ _ _ (by omega)]; exact (hn j (by omega)).symm
    · by_cases hjk : j = k
      · subst hjk; rw [bput_ne _ _ _ hik, bput_at]; exact hn i (by omega)
      · rw [bput_ne _ _ _ hik, bput_ne _ _ _ hjk]; exact h.2 i j (by omega) (by omega) hij
/-- A store's chains that a call writes: the row in block g, each chain in a block of its own that may grow. -/
def StP (lo : Nat) (w : World) (g : Nat) (l : Chs) (bs : Nat → Nat) : Prop :=
  ∃ cur, w.heap[g]? = some (.cells cur 51 (0, 0)) ∧ lo ≤ g ∧ l.length ≤ cur.size ∧
    (∀ i x, l[i]? = some x → ∃ c, cur[i]? = some (.slice (some ⟨bs i, 0, none⟩) x.length c) ∧ lo ≤ bs i ∧ bs i ≠ g ∧ bs i < w.heap.size ∧ w.ownsRow lo 54 2 (.slice (some ⟨bs i, 0, none⟩) x.length c) x.length (veCells x)) ∧
    (∀ i j, i < l.length → j < l.length → i ≠ j → bs i ≠ bs j)
theorem StP.of_laid {N : Nat} {w : World} {cs : Array Value} {l : Chs} {bs : Nat → Nat} (h : PLaid N w cs l l.length bs) (hh : w.heap[N]? = some (.cells cs 51 (0, 0))) (hs : l.length ≤ cs.size) : StP N w N l bs := by
  refine ⟨cs, hh, Nat.le_refl _, hs, fun i x hx => ?_, h.2⟩
  obtain ⟨c, h1, h3, h4, h5⟩ := h.1 i x (List.getElem?_eq_some_iff.1 hx).1 hx
  exact ⟨c, h1, by omega, by omega, h4, h5⟩
theorem StP.move {lo : Nat} {w w' : World} {g : Nat} {l : Chs} {bs : Nat → Nat} (h : StP lo w g l bs) (hs : w.heap.size ≤ w'.heap.size) (hk : ∀ k, lo ≤ k → k < w.heap.size → w'.heap[k]? = w.heap[k]?) : StP lo w' g l bs := by
  obtain ⟨cur, h1, h2, h3, h4, h5⟩ := h
  refine ⟨cur, (hk g h2 (Array.getElem?_eq_some_iff.1 h1).1).trans h1, h2, h3, fun i x hx => ?_, h5⟩
  obtain ⟨c, g1, g2, g3, g4, g5⟩ := h4 i x hx
  refine ⟨c, g1, g2, g3, by omega, own_set g5 (fun b hb => ?_)⟩
  simp only [Value.ownBlock, Option.some.injEq] at hb
  subst hb
  exact hk _ g2 g4
theorem StP.low {lo lo' : Nat} {w : World} {g : Nat} {l : Chs} {bs : Nat → Nat} (h : StP lo w g l bs) (hl : lo' ≤ lo) : StP lo' w g l bs := by
  obtain ⟨cur, h1, h2, h3, h4, h5⟩ := h
  refine ⟨cur, h1, by omega, h3, fun i x hx => ?_, h5⟩
  obtain ⟨c, g1, g2, g3, g4, g5⟩ := h4 i x hx
  exact ⟨c, g1, by omega, g3, g4, own_low2 g5 hl⟩
theorem blk_of {base g c : Nat} {w : World} {x : List Ve} (h : w.ownsRow base 54 2 (.slice (some ⟨g, 0, none⟩) x.length c) x.length (veCells x)) : x.length ≤ c ∧ VeBlk w g x := by
  rcases h.2 with ⟨e, h0⟩ | ⟨g', cap, cur, e, h1, h2, h3, h4, h5, h6⟩
  · cases e
  · simp only [Value.slice.injEq, Option.some.injEq, Addr.mk.injEq, and_true, true_and] at e
    obtain ⟨rfl, rfl⟩ := e
    refine ⟨h3, cur, h2, by omega, fun i y hy => ?_⟩
    obtain ⟨g0, g1⟩ := veCells_at x i y hy
    have hi := (List.getElem?_eq_some_iff.1 hy).1
    rw [← h6, List.getElem?_take, if_pos (by omega)] at g0 g1
    exact ⟨by simpa using g0, by simpa using g1⟩
theorem StP.own {lo : Nat} {w : World} {g : Nat} {l : Chs} {bs : Nat → Nat} (h : StP lo w g l bs) : StOwn lo w.heap.size w (some ⟨g, 0, none⟩) l bs := by
  obtain ⟨cur, h1, h2, h3, h4, h5⟩ := h
  refine ⟨g, cur, rfl, h2, (Array.getElem?_eq_some_iff.1 h1).1, h1, h3, fun i x hx => ?_, fun i j x y hx hy hij _ _ => h5 i j (List.getElem?_eq_some_iff.1 hx).1 (List.getElem?_eq_some_iff.1 hy).1 hij⟩
  obtain ⟨c, g1, g2, g3, g4, g5⟩ := h4 i x hx
  obtain ⟨q1, q2⟩ := blk_of g5
  exact ⟨_, c, g1, q1, fun _ => ⟨rfl, g2, g4, g3, q2⟩⟩
set_option maxHeartbeats 2000000 in
theorem of_chains_copy (a : Option Addr) (c : Nat) (l : Chs) (now : Int) (w : World) (hr : ChRow 0 w.heap.size w a l) (hbd : ChsBd 1048576 l) :
    Calls Try.prog 45 #[.agg #[.slice a l.length c, .int .i64 now], .func (.func 46) #[] #[]] w fun e w' =>
      ∃ bs, e = .returned (.slice (some ⟨w.heap.size + 1, 0, none⟩) l.length l.length) ∧ StP w.heap.size w' (w.heap.size + 1) l bs ∧ Below w.heap.size w w' := by
  obtain ⟨hl, ht⟩ := hbd
  obtain ⟨V, hV⟩ : ∃ V, V = w.alloc (.cells #[.slice a l.length c, .int .i64 now] 25) := ⟨_, rfl⟩
  have B0 : Below w.heap.size w V := by rw [hV]; exact (Below.refl _ _).alloc (Nat.le_refl _) _
  have zV : V.heap.size = w.heap.size + 1 := by rw [hV]; simp
  have HR : Hid (ChRow 0 V.heap.size V a l) := ChRow.up hr B0
  have HT : Hid (∀ x ∈ l, x.length ≤ 1048576) := ht
  have HB : Hid _ := B0
  clear hr ht B0
  obtain ⟨i27, hi, hz, hsz, hby⟩ := info_Ch
  have hmk := run_make (P := Try.prog) V 23 51 i27 _ Try.underlying23 hi hz .i64 .i64 (l.length : Int) (l.length : Int) (by omega) (by omega) (by rw [hby]; omega) (by omega)
  rw [hsz, Int.toNat_natCast, Nat.mul_one] at hmk
  clear hi hz hsz hby
  have hs0 := size_madeCells (Value.slice none 0 0).cells l.length
  generalize madeCells (Value.slice none 0 0).cells l.length = cs0 at *
  rw [hV] at hmk
  go_enter Try.func45, Try.ntmps45
  go_wp2_with fail
  have hN : V.heap.size = w.heap.size + 1 := zV
  rw [← hV]
  have hst : Below V.heap.size V (V.alloc (.cells cs0 51)) := (Below.refl _ _).alloc (Nat.le_refl _) _
  have hst2 : (V.alloc (.cells cs0 51)).heap[w.heap.size + 1]? = some (.cells cs0 51 (0, 0)) := by rw [← zV]; exact heap_alloc_new _ _
  have HST : Hid _ := hst2
  clear hst2 hmk
  go_loopw [15] (fun i w' => ∃ (k : Nat) (cs : Array Value) (bs : Nat → Nat), k ≤ l.length ∧ i = .int .i64 k ∧ Below V.heap.size V w' ∧ Hid (w'.heap[w.heap.size + 1]? = some (.cells cs 51 (0, 0))) ∧ cs.size = l.length ∧ Hid (PLaid (w.heap.size + 1) w' cs l k bs)) (fun i _ => l.length - (intOf i).toNat)
  case atStart => exact ⟨0, cs0, fun _ => 0, by omega, rfl, hst, HST, hs0, ⟨fun i x h => by omega, fun i j h => by omega⟩⟩
  case round =>
    obtain ⟨k, cs, bs, hk, rfl, hb, HH, hcs, HL⟩ := hrel
    obtain ⟨wo, rfl⟩ : ∃ x, x = wr := ⟨_, rfl⟩
    have hz := hb.size
    have hN2 : w.heap.size + 1 < wo.heap.size := (Array.getElem?_eq_some_iff.1 HH.out).1
    clear hs0 hst HST hV
    by_cases hlt : k < l.length
    · obtain ⟨b, o, a3, c3, ha, _, hbl, d0, hcap, r3⟩ := ChRow.cells (ChRow.keep HR.out (agree hb (Nat.le_refl _))) k hlt
      subst ha
      have R3 : Hid (VeRow 0 wo.heap.size wo a3 l[k]) := VeRow.wide r3 (Nat.le_refl _) hb.size
      have HX : Hid (l[k].length ≤ 1048576) := HT.out l[k] (List.getElem_mem hlt)
      clear r3
      go_wp2_with fail
      refine (copy_own a3 c3 l[k] _ R3.out HX.out).mono ?_
      rintro e w1 ⟨rfl, v1, hb1⟩
      have hz2 : wo.heap.size < w1.heap.size := own_lt2 v1 _ rfl
      have V1 : Hid _ := own_low2 (base' := w.heap.size + 1) v1 (by omega)
      have HH1 : Hid (w1.heap[w.heap.size + 1]? = some (.cells cs 51 (0, 0))) := (hb1.block _ hN2).trans HH.out
      have HL1 : Hid (PLaid (w.heap.size + 1) w1 cs l k bs) := PLaid.keep HL.out hb1.size (agree hb1 (Nat.le_refl _))
      have HNE : Hid (∀ i, i < k → bs i ≠ wo.heap.size) := fun i hi => by
        obtain ⟨_, _, _, h4, _⟩ := HL.out.1 i l[i] hi (List.getElem?_eq_getElem (by omega))
        omega
      obtain ⟨v0, hv0⟩ : ∃ v, w1.cell? ⟨w.heap.size + 1, k, none⟩ = some v := ⟨_, (row_cell HH1.out _).trans (Array.getElem?_eq_getElem (by omega))⟩
      have hf0 := row_frozen HH1.out k
      have qb : Hid (Below V.heap.size V w1) := hb.trans (hb1.mono hb.size)
      clear d0 v1 hb1
      go_wp2_with fail
      refine ⟨⟨k + 1, _, bput bs k wo.heap.size, by omega, by go_num, qb.out.setCell (by first | omega | (simp <;> omega)) _, row_set HH1.out _ _, by simp [hcs], ?_⟩, by simp [intOf]; omega⟩
      refine PLaid.put (g := wo.heap.size) (c := l[k].length) (PLaid.keep HL1.out (by simp) ?_) hlt (by omega) (by omega) (by simpa using hz2) (own_set V1.out ?_) HNE.out
      · intro g h1 h2
        exact heap_set _ _ _ _ _ (by omega)
      · intro g hg
        simp only [Value.ownBlock, Option.some.injEq] at hg
        subst hg
        exact heap_set _ _ _ _ _ (by omega)
    · go_wp2_with fail
      go_ret
      obtain rfl : k = l.length := by omega
      refine ⟨bs, rfl, ?_, HB.out.trans (hb.mono (by omega))⟩
      exact StP.low (StP.of_laid HL.out HH.out (by omega)) (by omega)
end Go.Proofs.Ytljnhecdelimfaa.G
