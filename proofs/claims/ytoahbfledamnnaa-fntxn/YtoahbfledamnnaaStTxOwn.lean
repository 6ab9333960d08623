/- The specification's own copies of transactions; what a transaction wrote last. -/
import Derived.Test.YtoahbfledamnnaaGRegionFive
import Derived.Test.YtoahbfledamnnaaStKids
import Derived.Test.YtoahbfledamnnaaStSpecTwo
import Derived.Test.YtoahbfledamnnaaStFgMath
import Derived.Deep.CutRange
import Derived.Deep.CutBlock
namespace Go.Proofs.Ytoahbfledamnnaa.G
open Go.ChangeShapes Go.WideShapes Go.ChangeAt Go.RowKit
set_option linter.unusedVariables false

theorem Grow.lt {b : Nat} {now : Int} {w : World} {v : Value} {vs : List Value} {l : Chs} (h : Grow b now w v vs l) : b < w.heap.size ∧ ∀ k, v.ownBlock = some k → b - 1 ≤ k ∧ k < w.heap.size := by
  refine ⟨(Array.getElem?_eq_some_iff.1 h.cell).1, fun k hk => ?_⟩
  rcases h.own.2 with ⟨e, _⟩ | ⟨g', cap, cur, e, h1, h2, _⟩
  · subst e; cases hk
  · subst e
    simp only [Value.ownBlock, Option.some.injEq] at hk
    subst hk
    exact ⟨h1, (Array.getElem?_eq_some_iff.1 h2).1⟩
/-- Where the region stands: x is the operation that appends, s the slot that it writes. -/
def GrJ (x s b : Nat) (now : Int) (W0 : World) (v : Value) (vs : List Value) (l : Chs) (y : List Ve) (L : Array Bool) (u : Nat → Value) (W : World) : Prop :=
  W0.grownBy W v.ownBlock ∧ (L.getD x false = false → Grow b now W v vs l) ∧
  (L.getD x false = true → ∃ vs', W.ownsRow (b - 1) 58 1 (u s) (l ++ [y]).length vs' ∧ (u s).ownBlock ≠ some b ∧ Kids (u s).ownBlock (b + 1) W vs' (l ++ [y]))
theorem grown_refl (w : World) (r : Option Nat) : w.grownBy w r := ⟨rfl, rfl, rfl, Nat.le_refl _, fun _ _ _ => rfl⟩
theorem grown_below {a w w' : World} {r : Option Nat} (h : a.grownBy w r) (hb : Below w.heap.size w w') : a.grownBy w' r :=
  ⟨hb.os.trans h.os, hb.tape.trans h.tape, hb.output.trans h.output, Nat.le_trans h.size hb.size, fun k hk hn => (hb.block k (Nat.lt_of_lt_of_le hk h.size)).trans (h.block k hk hn)⟩
theorem grown_trans {a w w' : World} {r : Option Nat} (h : a.grownBy w r) (g : w.grownBy w' r) : a.grownBy w' r :=
  ⟨g.os.trans h.os, g.tape.trans h.tape, g.output.trans h.output, Nat.le_trans h.size g.size, fun k hk hn => (g.block k (Nat.lt_of_lt_of_le hk h.size) hn).trans (h.block k hk hn)⟩
theorem own_below {w w' : World} {base size n : Nat} {e : TypeId} {v : Value} {xs : List Value} (h : w.ownsRow base e size v n xs) (hb : Below w.heap.size w w') : w'.ownsRow base e size v n xs := by
  refine own_set h (fun g hg => hb.block g ?_)
  rcases h.2 with ⟨e, _⟩ | ⟨g', cap, cur, e, h1, h2, _⟩
  · subst e; cases hg
  · subst e
    simp only [Value.ownBlock, Option.some.injEq] at hg
    subst hg
    exact (Array.getElem?_eq_some_iff.1 h2).1
theorem GrJ.start {x s b : Nat} {now : Int} {W0 : World} {v : Value} {vs : List Value} {l : Chs} {y : List Ve} {n : Nat} {u : Nat → Value} (h : Grow b now W0 v vs l) : GrJ x s b now W0 v vs l y (Array.replicate n false) u W0.drew := by
  refine ⟨grown_below (grown_refl _ _) (Below.refl _ _).drew, fun _ => h.below (Below.refl _ _).drew, fun h => ?_⟩
  exfalso
  by_cases hx : x < n
  · simp [hx] at h
  · simp [hx] at h
theorem GrJ.step {x s b : Nat} {now : Int} {W0 : World} {v : Value} {vs : List Value} {l : Chs} {y : List Ve} {L : Array Bool} {u : Nat → Value} {W W' : World} (h : GrJ x s b now W0 v vs l y L u W) (hb : Below W.heap.size W W') {i d : Nat} {val : Value} (hi : i ≠ x) (hd : d ≠ s) :
    GrJ x s b now W0 v vs l y (L.setIfInBounds i true) (upd u d val) W' := by
  obtain ⟨h1, h2, h3⟩ := h
  refine ⟨grown_below h1 hb, fun hl => ?_, fun hl => ?_⟩
  · rw [getD_set_ne false hi] at hl; exact (h2 hl).below hb
  · rw [getD_set_ne false hi] at hl
    obtain ⟨vs', g1, g2, g3⟩ := h3 hl
    rw [upd_ne _ _ (Ne.symm hd)]
    exact ⟨vs', own_below g1 hb, g2, g3.keep hb.size (fun k a1 a2 a3 => ⟨hb.block k a2, a3⟩)⟩
/-- The append itself. -/
theorem GrJ.put {x s b : Nat} {now : Int} {W0 : World} {v : Value} {vs : List Value} {l : Chs} {y : List Ve} {L : Array Bool} {u : Nat → Value} {W W' : World} (h : GrJ x s b now W0 v vs l y L u W) (hx : x < L.size) (hl : L.getD x false = false) (hb0 : b + 1 ≤ W0.heap.size)
    {kid : Value} (hk : KidX v.ownBlock W0.heap.size W kid y) {g cap : Nat} (ho : W'.ownsRow (b - 1) 58 1 (.slice (some ⟨g, 0, none⟩) (l.length + 1) cap) (l.length + 1) (vs ++ [kid])) (hg : W.grownBy W' v.ownBlock) (hat : v.ownBlock = some g ∨ g = W.heap.size) :
    GrJ x s b now W0 v vs l y (L.setIfInBounds x true) (upd u s (.slice (some ⟨g, 0, none⟩) (l.length + 1) cap)) W' := by
  obtain ⟨h1, h2, h3⟩ := h
  have hG := h2 hl
  have hlen := hG.len
  refine ⟨grown_trans h1 hg, fun hh => ?_, fun _ => ?_⟩
  · simp [hx] at hh
  · rw [upd_at]
    refine ⟨vs ++ [kid], by simpa using ho, ?_, ?_⟩
    · simp only [Value.ownBlock, ne_eq, Option.some.injEq]
      rcases hat with h | h
      · intro e; exact hG.off (by rw [h, e])
      · have := h1.size; omega
    · refine Kids.snoc (Kids.keep hG.kids hg.size (fun k a1 a2 a3 => ⟨hg.block k a2 a3, ?_⟩)) hlen (KidX.low (KidX.keep hk hg.size (fun k a1 a2 a3 => ⟨hg.block k a2 a3, ?_⟩)) hb0)
      all_goals
        simp only [Value.ownBlock, ne_eq, Option.some.injEq]
        rcases hat with h | h
        · intro e; exact a3 (by rw [h, e])
        · omega
/-- Behind the store. -/
theorem GrJ.done {x s b : Nat} {now : Int} {W0 : World} {v : Value} {vs : List Value} {l : Chs} {y : List Ve} {L : Array Bool} {u : Nat → Value} {W : World} (h : GrJ x s b now W0 v vs l y L u W) (h0 : Grow b now W0 v vs l) (hl : L.getD x false = true) (hb : 0 < b) :
    W.heap[b]? = some (.cells #[v, .int .i64 now] 25 (0, 0)) ∧ ∃ vs', Grow b now (W.setCell ⟨b, 0, none⟩ (u s)) (u s) vs' (l ++ [y]) := by
  obtain ⟨h1, h2, h3⟩ := h
  obtain ⟨vs', g1, g2, g3⟩ := h3 hl
  have hc : W.heap[b]? = some (.cells #[v, .int .i64 now] 25 (0, 0)) := (h1.block b h0.lt.1 (fun e => h0.off e.symm)).trans h0.cell
  refine ⟨hc, vs', ⟨?_, ?_, g2, ?_⟩⟩
  · have := row_set hc 0 (u s)
    simpa using this
  · exact own_set g1 (fun g hg => heap_set _ _ _ _ _ (fun e => g2 (by rw [hg, e])))
  · refine Kids.keep g3 (by simp) (fun k a1 a2 a3 => ⟨heap_set _ _ _ _ _ (by omega), a3⟩)
end Go.Proofs.Ytoahbfledamnnaa.G
namespace Go.Proofs.Ytoahbfledamnnaa.G
open Go.ChangeShapes Go.WideShapes Go.ChangeAt Go.RowKit
set_option linter.unusedVariables false

/-- A row of chains that a call owns, its chains in blocks of their own. -/
def OwnK (lo : Nat) (w : World) (v : Value) (l : Chs) : Prop := ∃ vs, w.ownsRow lo 58 1 v l.length vs ∧ Kids v.ownBlock lo w vs l
/-- What each operation of the copying tells. -/
def OwPv (B N0 M0 S : Nat) (W0 : World) (v : Value) (A : Option Addr) (n c k : Nat) (pk : Value) (a3 : Option Addr) (c3 : Nat) (lc : List Ve) : Nat → Value → World → Prop
  | 0, y, _ => y = .pointer (some ⟨B, 0, none⟩)
  | 1, y, _ => y = v
  | 2, y, _ => ∃ g, y = .slice g 0 0
  | 3, y, _ => y = .pointer (some ⟨S, 0, none⟩)
  | 4, y, _ => y = .slice A n c
  | 5, y, _ => y = .int .i64 k
  | 6, y, _ => y = pk
  | 7, y, _ => y = .slice a3 lc.length c3
  | 8, y, W => KidX v.ownBlock N0 W y lc
  | 9, y, W => ∃ h z, y = .slice (some ⟨h, 0, none⟩) 1 1 ∧ N0 ≤ h ∧ W.heap[h]? = some (.cells #[z] 58 (0, 0)) ∧ KidX v.ownBlock N0 W z lc
  | 10, _, _ => True
  | _, y, _ => y = .pointer (some ⟨B, 0, none⟩)
theorem OwPv.up {B N0 M0 S : Nat} {W0 : World} {v : Value} {A : Option Addr} {n c k : Nat} {pk : Value} {a3 : Option Addr} {c3 : Nat} {lc : List Ve} {W W' : World} (hs : W.heap.size ≤ W'.heap.size) (hk : ∀ k, N0 ≤ k → k < W.heap.size → W'.heap[k]? = W.heap[k]?) {i : Nat} {y : Value} (h : OwPv B N0 M0 S W0 v A n c k pk a3 c3 lc i y W) : OwPv B N0 M0 S W0 v A n c k pk a3 c3 lc i y W' := by
  unfold OwPv at h ⊢
  split at h
  case h_9 => exact h.keep hs (fun k a1 a2 a3 => ⟨hk k a1 a2, a3⟩)
  case h_10 =>
    obtain ⟨h', z, h1, h2, h3, h4⟩ := h
    exact ⟨h', z, h1, h2, (hk _ h2 (Array.getElem?_eq_some_iff.1 h3).1).trans h3, h4.keep hs (fun k a1 a2 a3 => ⟨hk k a1 a2, a3⟩)⟩
  all_goals exact h
set_option maxHeartbeats 8000000 in
set_option maxRecDepth 40000 in
theorem spec_l06Own (a : Option Addr) (c : Nat) (l : Chs) (now : Int) (w : World) (hr : ChRow 0 w.heap.size w a l) (hbd : ChsBd 1048576 l) :
    Calls Try.prog 42 #[.agg #[.slice a l.length c, .int .i64 now]] w fun e w' => ∃ v, e = .returned (.agg #[v, .int .i64 now]) ∧ OwnK w.heap.size w' v l ∧ Below w.heap.size w w' := by
  have HR : Hid (ChRow 0 w.heap.size w a l) := hr
  have hl := hbd.1
  have HT : Hid (∀ x ∈ l, x.length ≤ 1048576) := hbd.2
  clear hr hbd
  go_enter Try.func42, Try.ntmps42
  go_wp2_with fail
  obtain ⟨V, hV⟩ : ∃ V : World, V = (((w.alloc (.cells #[.slice a l.length c, .int .i64 now] 25)).alloc (.cells #[.slice none 0 0, .int .i64 0] 25)).alloc (.cells #[] 58)).alloc (.cells #[.slice (some ⟨w.heap.size + 1 + 1, 0, none⟩) 0 0, .int .i64 now] 25) := ⟨_, rfl⟩
  have zV : V.heap.size = w.heap.size + 4 := by rw [hV]; simp
  have bV : Below w.heap.size w V := by
    rw [hV]
    repeat (first | exact Below.refl _ _ | refine Below.alloc ?_ (by first | omega | (simp <;> omega)) _)
  have c0 : V.heap[w.heap.size]? = some (.cells #[.slice a l.length c, .int .i64 now] 25 (0, 0)) := by
    rw [hV, Below.heap_alloc _ _ _ (by simp <;> omega), Below.heap_alloc _ _ _ (by simp <;> omega), Below.heap_alloc _ _ _ (by simp <;> omega)]; exact heap_alloc_new _ _
  have c1 : V.heap[w.heap.size + 1]? = some (.cells #[.slice none 0 0, .int .i64 0] 25 (0, 0)) := by
    rw [hV, Below.heap_alloc _ _ _ (by simp <;> omega), Below.heap_alloc _ _ _ (by simp <;> omega)]
    have := heap_alloc_new (w.alloc (.cells #[.slice a l.length c, .int .i64 now] 25)) (.cells #[.slice none 0 0, .int .i64 0] 25)
    simpa using this
  have gV : Grow (w.heap.size + 1 + 1 + 1) now V (.slice (some ⟨w.heap.size + 1 + 1, 0, none⟩) 0 0) [] [] := by
    refine ⟨?_, ⟨rfl, .inr ⟨w.heap.size + 1 + 1, 0, #[], rfl, by omega, ?_, Nat.le_refl _, Nat.zero_le _, rfl, rfl⟩⟩, by simp [Value.ownBlock], fun i x hx => by simp at hx⟩
    · rw [hV]
      have := heap_alloc_new (((w.alloc (.cells #[.slice a l.length c, .int .i64 now] 25)).alloc (.cells #[.slice none 0 0, .int .i64 0] 25)).alloc (.cells #[] 58)) (.cells #[.slice (some ⟨w.heap.size + 1 + 1, 0, none⟩) 0 0, .int .i64 now] 25)
      simpa using this
    · rw [hV, Below.heap_alloc _ _ _ (by simp <;> omega)]
      have := heap_alloc_new ((w.alloc (.cells #[.slice a l.length c, .int .i64 now] 25)).alloc (.cells #[.slice none 0 0, .int .i64 0] 25)) (.cells #[] 58)
      simpa using this
  rw [← hV]
  have GV : Hid _ := gV
  have CV : Hid (V.heap[w.heap.size]? = some (.cells #[.slice a l.length c, .int .i64 now] 25 (0, 0)) ∧ V.heap[w.heap.size + 1]? = some (.cells #[.slice none 0 0, .int .i64 0] 25 (0, 0)) ∧ Below w.heap.size w V) := ⟨c0, c1, bV⟩
  clear gV c0 c1 bV hV
  go_loopw [4] (fun i w' => ∃ (k : Nat) (v : Value) (vs : List Value), k ≤ l.length ∧ i = .int .i64 k ∧ Below (w.heap.size + 1 + 1) V w' ∧ Hid (Grow (w.heap.size + 1 + 1 + 1) now w' v vs (l.take k))) (fun i _ => l.length - (intOf i).toNat)
  case atStart => exact ⟨0, _, _, by omega, rfl, Below.refl _ _, by rw [List.take_zero]; exact GV⟩
  case round =>
    obtain ⟨wo, rfl⟩ : ∃ x, x = wr := ⟨_, rfl⟩
    obtain ⟨k, v, vs, hk, rfl, hb, HG⟩ := hrel
    have hz := hb.size
    have e0 : wo.heap[w.heap.size]? = some (.cells #[.slice a l.length c, .int .i64 now] 25 (0, 0)) := (hb.block _ (by omega)).trans CV.out.1
    have e1 : wo.heap[w.heap.size + 1]? = some (.cells #[.slice none 0 0, .int .i64 0] 25 (0, 0)) := (hb.block _ (by omega)).trans CV.out.2.1
    have Q : Hid (Below w.heap.size w wo) := CV.out.2.2.trans (hb.mono (by omega))
    by_cases hlt : k < l.length
    case neg =>
      obtain rfl : k = l.length := by omega
      have GE : Hid (Grow (w.heap.size + 1 + 1 + 1) now wo v vs l) := by have := HG.out; rw [List.take_length] at this; exact this
      have x0 := fun o => row_cell e0 o
      have xv := fun o => row_cell GE.out.cell o
      have x1 := fun o => row_cell e1 o
      have y1 := fun o => row_frozen e1 o
      obtain ⟨a9, c9, hv, _⟩ := GE.out.row
      have hlt' : ¬ (l.length : Int) < l.length := by omega
      have OW : Hid (wo.ownsRow w.heap.size 58 1 v l.length vs) := own_low GE.out.own (by omega)
      have KW : Hid (Kids v.ownBlock w.heap.size wo vs l) := GE.out.kids.low (by omega)
      have HL9 := GE.out.lt.2
      have HLT : Hid _ := HL9
      have KB9 : Hid (Kids v.ownBlock (w.heap.size + 1 + 1 + 1 + 1) wo vs l) := GE.out.kids
      subst hv
      clear e0 e1 HG HL9
      go_wp2_with fail
      refine bodyPost_ret (v := .agg #[.slice a9 l.length c9, .int .i64 now]) (by simp [results, Try.results42, go_sem, x1]) rfl ⟨_, rfl, ⟨vs, ?_, ?_⟩, ?_⟩
      · refine own_set OW.out (fun g hg => ?_)
        have := (HLT.out g hg).1
        rw [heap_set _ _ _ _ _ (by omega), heap_set _ _ _ _ _ (by omega)]
      · refine Kids.low (Kids.keep KB9.out (by simp) (fun g h1 h2 h3 => ⟨?_, h3⟩)) (by omega)
        rw [heap_set _ _ _ _ _ (by omega), heap_set _ _ _ _ _ (by omega)]
      · repeat (refine Below.setCell ?_ (by first | omega | (simp <;> omega)) _)
        exact Q.out
    obtain ⟨b, o, a3, c3, ha, _, hbl, d0, hcap, r3⟩ := ChRow.cells (ChRow.keep HR.out (agree Q.out (Nat.le_refl _))) k hlt
    subst ha
    have hX : l[k].length ≤ 1048576 := HT.out l[k] (List.getElem_mem hlt)
    have R3 : Hid (VeRow 0 w.heap.size wo a3 l[k]) := r3
    have x0 := fun o => row_cell e0 o
    have HB : Hid _ := hb
    have E1 : Hid _ := e1
    have E0 : Hid _ := e0
    have D0 : Hid (wo.cell? ⟨b, o + k, none⟩ = some (.slice a3 l[k].length c3)) := d0
    have hlt' : (k : Int) < l.length := by omega
    clear r3 e0 e1 hb
    go_wp2_with fail
    have hN0 : w.heap.size + 1 + 1 + 1 + 1 ≤ wo.heap.size := by omega
    have HRB : Hid _ := HG.out.lt.2
    have hpl : (l.take k).length = k := by rw [List.length_take]; omega
    have HPL : Hid _ := hpl
    clear hpl x0 d0
    refine region_rel5 (n := 12) (k := 1) (by omega) (by kernel_rfl) (by kernel_rfl) (by kernel_rfl) (fun u => ⟨#[.agg #[.slice (some ⟨b, o, none⟩) l.length c, .int .i64 now], .pointer (some ⟨w.heap.size, 0, none⟩), .pointer (some ⟨w.heap.size + 1, 0, none⟩), .pointer (some ⟨w.heap.size + 1 + 1 + 1, 0, none⟩), .int .i64 k, .slice (some ⟨w.heap.size + 1 + 1, 0, none⟩) 0 0, .pointer (some ⟨w.heap.size, 1, none⟩), .int .i64 now, .agg #[.slice (some ⟨w.heap.size + 1 + 1, 0, none⟩) 0 0, .int .i64 now], .int .i64 k, .pointer (some ⟨w.heap.size, 0, none⟩), .slice (some ⟨b, o, none⟩) l.length c, .int .i64 l.length, .bool true, u14, u15, u 16, u 17, u 18, u 19, u 20, u 21, u 22, u 23, u 24, u 25, u 26, u 27, undef], []⟩) (fun n => match n with | 16 => u16 | 17 => u17 | 18 => u18 | 19 => u19 | 20 => u20 | 21 => u21 | 22 => u22 | 23 => u23 | 24 => u24 | 25 => u25 | 26 => u26 | 27 => u27 | _ => undef) (fun i => 16 + i) (fun i j _ _ h => by omega)
      (OwPv (w.heap.size + 1 + 1 + 1) wo.heap.size w.heap.size w.heap.size wo v (some ⟨b, o, none⟩) l.length c k (.pointer (some ⟨b, o + k, none⟩)) a3 c3 l[k]) (GrJ 10 26 (w.heap.size + 1 + 1 + 1) now wo v vs (l.take k) l[k]) (GrJ.start HG.out) ?step ?last
    case step =>
      intro L u W i hi hLs hLi hj hdep
      have hzW := hj.1.size
      have oldb : ∀ g, g < w.heap.size + 1 + 1 → W.heap[g]? = wo.heap[g]? := fun g hg => hj.1.block g (by omega) (fun e => by have := (HRB.out g e.symm).1; omega)
      have hcase : i = 0 ∨ i = 1 ∨ i = 2 ∨ i = 3 ∨ i = 4 ∨ i = 5 ∨ i = 6 ∨ i = 7 ∨ i = 8 ∨ i = 9 ∨ i = 10 ∨ i = 11 := by omega
      rcases hcase with rfl | rfl | rfl | rfl | rfl | rfl | rfl | rfl | rfl | rfl | rfl | rfl
      · refine wpOp_step rfl (fun K hK => ?_)
        clear hdep
        go_simp
        exact hK _ _ ⟨_, rfl, fun _ _ h => h, rfl, hj.step (Below.refl _ _) (by omega) (by omega)⟩
      · have d0 : u 16 = .pointer (some ⟨w.heap.size + 1 + 1 + 1, 0, none⟩) := (hdep _ rfl ⟨0, .data⟩ (by simp) rfl).2
        have x6 := fun o => row_cell ((hj.1.block _ HG.out.lt.1 (fun e => HG.out.off e.symm)).trans HG.out.cell) o
        refine wpOp_step rfl (fun K hK => ?_)
        clear hdep
        go_simp
        exact hK _ _ ⟨_, by simp [upd, d0], fun _ _ h => h, rfl, hj.step (Below.refl _ _) (by omega) (by omega)⟩
      · refine wpOp_step rfl (fun K hK => ?_)
        clear hdep
        go_simp
        exact hK _ _ ⟨_, rfl, fun j y h => OwPv.up (by simp) (fun k _ h2 => Below.heap_alloc _ _ _ h2) h, ⟨_, rfl⟩, hj.step ((Below.refl _ _).alloc (Nat.le_refl _) _) (by omega) (by omega)⟩
      · refine wpOp_step rfl (fun K hK => ?_)
        clear hdep
        go_simp
        exact hK _ _ ⟨_, rfl, fun _ _ h => h, rfl, hj.step (Below.refl _ _) (by omega) (by omega)⟩
      · have d3 : u 19 = .pointer (some ⟨w.heap.size, 0, none⟩) := (hdep _ rfl ⟨3, .data⟩ (by simp) rfl).2
        have x6 := fun o => row_cell ((oldb _ (by omega)).trans E0.out) o
        refine wpOp_step rfl (fun K hK => ?_)
        clear hdep
        go_simp
        exact hK _ _ ⟨_, by simp [upd, d3], fun _ _ h => h, rfl, hj.step (Below.refl _ _) (by omega) (by omega)⟩
      · refine wpOp_step rfl (fun K hK => ?_)
        clear hdep
        go_simp
        exact hK _ _ ⟨_, rfl, fun _ _ h => h, rfl, hj.step (Below.refl _ _) (by omega) (by omega)⟩
      · have d4 : u 20 = .slice (some ⟨b, o, none⟩) l.length c := (hdep _ rfl ⟨4, .data⟩ (by simp) rfl).2
        have d5 : u 21 = .int .i64 k := (hdep _ rfl ⟨5, .data⟩ (by simp) rfl).2
        refine wpOp_step rfl (fun K hK => ?_)
        clear hdep
        go_simp
        exact hK _ _ ⟨_, by simp [upd, d4, d5], fun _ _ h => h, rfl, hj.step (Below.refl _ _) (by omega) (by omega)⟩
      · have d6 : u 22 = .pointer (some ⟨b, o + k, none⟩) := (hdep _ rfl ⟨6, .data⟩ (by simp) rfl).2
        have x7 := (World.cell?_of_block (a := ⟨b, o + k, none⟩) (w := wo) (w' := W) (oldb b (by omega))).trans D0.out
        refine wpOp_step rfl (fun K hK => ?_)
        clear hdep
        go_simp
        exact hK _ _ ⟨_, by simp [upd, d6], fun _ _ h => h, rfl, hj.step (Below.refl _ _) (by omega) (by omega)⟩
      · obtain ⟨g2, d2⟩ : ∃ g, u 18 = .slice g 0 0 := (hdep _ rfl ⟨2, .data⟩ (by simp) rfl).2
        have d7 : u 23 = .slice a3 l[k].length c3 := (hdep _ rfl ⟨7, .data⟩ (by simp) rfl).2
        have r5W : VeRow 0 W.heap.size W a3 l[k] := VeRow.wide (VeRow.keep R3.out (fun g _ h2 => oldb g (by omega))) (Nat.le_refl _) (by omega)
        obtain ⟨a6, c6, W6, hrun, h61, h62, h63⟩ := app_fresh l[k] a3 g2 c3 W r5W hX
        have HK6 : Hid (KidX v.ownBlock wo.heap.size W6 (.slice a6 l[k].length c6) l[k]) := by
          refine ⟨a6, c6, rfl, h61, ?_⟩
          rcases h62 with h | ⟨h, hv⟩
          · exact .inl h
          · exact .inr ⟨W.heap.size, h, hzW, hv.lt, fun e => by have := (HRB.out _ e.symm).2; omega, hv⟩
        have H63 : Hid _ := h63
        clear hdep r5W h61 h62 h63
        refine wpOp_step rfl (fun K hK => ?_)
        refine wp_append_run (.tmp 18) (.tmp 23) _ rfl _ _ _ _ d2 d7 hrun ?_
        exact hK _ _ ⟨_, rfl, fun j y h => OwPv.up H63.out.size (fun k _ h2 => H63.out.block k h2) h, HK6.out, hj.step H63.out (by omega) (by omega)⟩
      · have d6 : KidX v.ownBlock wo.heap.size W (u 24) l[k] := (hdep _ rfl ⟨8, .data⟩ (by simp) rfl).2
        have H6 := d6
        obtain ⟨a6, c6, e6, _⟩ := d6
        rw [e6] at H6
        have HK7 : Hid _ := H6
        clear hdep H6
        refine wpOp_step rfl (fun K hK => ?_)
        go_simp
        exact hK _ _ ⟨.slice (some ⟨W.heap.size, 0, none⟩) 1 1, by simp [upd, e6], fun j y h => OwPv.up (by simp) (fun k _ h2 => Below.heap_alloc _ _ _ h2) h, ⟨W.heap.size, _, rfl, hzW, heap_alloc_new _ _, KidX.keep (show KidX v.ownBlock wo.heap.size W (.slice a6 l[k].length c6) l[k] from HK7.out) (by simp) (fun k _ h2 h3 => ⟨Below.heap_alloc _ _ _ h2, h3⟩)⟩, hj.step ((Below.refl _ _).alloc (Nat.le_refl _) _) (by omega) (by omega)⟩
      · obtain ⟨h, z, d7, h71, h72, h73⟩ : ∃ h z, u 25 = .slice (some ⟨h, 0, none⟩) 1 1 ∧ wo.heap.size ≤ h ∧ W.heap[h]? = some (.cells #[z] 58 (0, 0)) ∧ KidX v.ownBlock wo.heap.size W z l[k] := (hdep _ rfl ⟨9, .data⟩ (by simp) rfl).2
        have d1 : u 17 = v := (hdep _ rfl ⟨1, .data⟩ (by simp) rfl).2
        have hl8 : L.getD 10 false = false := by
          cases h8 : L.getD 10 false
          · rfl
          · rw [getD_both (by omega) h8] at hLi; cases hLi
        have hG := hj.2.1 hl8
        have ho := hG.own
        rw [HPL.out] at ho
        obtain ⟨g, cap, W8, hrun, q1, q2, q3, q4⟩ := app_row k v z vs _ h W ho h72 h73.one (by omega) (by omega)
        have HJ8 : Hid _ := GrJ.put hj (by omega) hl8 hN0 h73 (g := g) (cap := cap) (by rw [HPL.out]; exact q1) q2 q3
        rw [HPL.out] at HJ8
        have HQ2 : Hid _ := q2
        clear hdep ho hG q1 q2 q3 h73 h72
        refine wpOp_step rfl (fun K hK => ?_)
        refine wp_append_run (.tmp 17) (.tmp 25) _ rfl _ _ _ _ d1 d7 hrun ?_
        exact hK _ _ ⟨_, rfl, fun j y h => OwPv.up HQ2.out.size (fun k a1 h2 => HQ2.out.block k h2 (fun e => by have := (HRB.out _ e.symm).2; omega)) h, trivial, HJ8.out⟩
      · refine wpOp_step rfl (fun K hK => ?_)
        clear hdep
        go_simp
        exact hK _ _ ⟨_, rfl, fun _ _ h => h, rfl, hj.step (Below.refl _ _) (by omega) (by omega)⟩
    case last =>
      intro L u W hLs hL hj hp
      have d9 : u 27 = .pointer (some ⟨w.heap.size + 1 + 1 + 1, 0, none⟩) := hp 11 (by omega)
      obtain ⟨hc, vs', hG⟩ := hj.done HG.out (hL 10 (by omega)) (by omega)
      obtain ⟨a9, n9, c9, e9⟩ : ∃ a n c, u 26 = .slice a n c := by obtain ⟨a9, c9, e9, _⟩ := hG.row; exact ⟨a9, _, c9, e9⟩
      have q2 := fun o => row_cell hc o
      have f2 := fun o => row_frozen hc o
      have HG2 : Hid (Grow (w.heap.size + 1 + 1 + 1) now (W.setCell ⟨w.heap.size + 1 + 1 + 1, 0, none⟩ (u 26)) (u 26) vs' (l.take (k + 1))) := by
        rw [Hid, List.take_succ_eq_append_getElem hlt]; exact hG
      have HBW : Hid (Below (w.heap.size + 1 + 1) V W) := HB.out.grown hj.1 (by omega) (fun g hg => by have := (HRB.out g hg).1; omega)
      rw [e9] at HG2
      clear hp hj hc hG
      unfold wpTail
      refine wpOp_step rfl (fun K hK => ?_)
      go_simp
      refine hK _ _ ?_
      clear hK
      unfold wpTail
      go_wp2_with fail
      exact ⟨⟨k + 1, _, vs', by omega, by go_num, HBW.out.setCell (by first | omega | (simp <;> omega)) _, HG2⟩, by simp [intOf]; omega⟩
end Go.Proofs.Ytoahbfledamnnaa.G
namespace Go.Proofs.Ytoahbfledamnnaa.G
open Go.ChangeShapes Go.WideShapes Go.ChangeAt Go.RowKit
set_option linter.unusedVariables false

theorem OwnK.cells {lo : Nat} {w : World} {v : Value} {l : Chs} (h : OwnK lo w v l) (hl : 0 < l.length) : ∃ g cap cur, v = .slice (some ⟨g, 0, none⟩) l.length cap ∧ lo ≤ g ∧ w.heap[g]? = some (.cells cur 58 (0, 0)) ∧ l.length ≤ cur.size ∧ ∀ (i : Nat) (x : List Ve), l[i]? = some x → ∃ u, cur[i]? = some u ∧ KidX (some g) lo w u x := by
  obtain ⟨vs, ho, hk⟩ := h
  rcases ho.2 with ⟨_, h0⟩ | ⟨g, cap, cur, rfl, h1, h2, h3, h4, h5, h6⟩
  · omega
  · refine ⟨g, cap, cur, rfl, h1, h2, by omega, fun i x hx => ?_⟩
    obtain ⟨u, g1, g2⟩ := hk i x hx
    have hi := (List.getElem?_eq_some_iff.1 hx).1
    rw [← h6, List.getElem?_take, if_pos (by omega)] at g1
    exact ⟨u, by simpa using g1, g2⟩
theorem OwnK.below {lo : Nat} {w w' : World} {v : Value} {l : Chs} (h : OwnK lo w v l) (hb : Below w.heap.size w w') : OwnK lo w' v l := by
  obtain ⟨vs, ho, hk⟩ := h
  exact ⟨vs, own_below ho hb, hk.keep hb.size (fun k a1 a2 a3 => ⟨hb.block k a2, a3⟩)⟩
/-- One chain put in another's place, in the row itself. -/
theorem OwnK.put {lo N0 : Nat} {w W : World} {g cap : Nat} {cur : Array Value} {l : Chs} {k : Nat} {y : List Ve} {u : Value} (hw : w.heap[g]? = some (.cells cur 58 (0, 0))) (hcap : l.length ≤ cap) (hcm : cap ≤ maxLen) (hcs : cur.size = cap)
    (hk : ∀ (i : Nat) (x : List Ve), l[i]? = some x → ∃ u, cur[i]? = some u ∧ KidX (some g) lo w u x) (hg : lo ≤ g) (hgs : g < N0) (hN : N0 = w.heap.size) (hb : Below N0 w W) (hlt : k < l.length) (hu : KidX none N0 W u y) :
    OwnK lo (W.setCell ⟨g, k, none⟩ u) (.slice (some ⟨g, 0, none⟩) l.length cap) (l.set k y) := by
  have hW : W.heap[g]? = some (.cells cur 58 (0, 0)) := (hb.block g hgs).trans hw
  have hset := row_set hW k u
  have hzb := hb.size
  refine ⟨((cur.setIfInBounds k u).toList.take l.length), ⟨by simp; omega, .inr ⟨g, cap, _, by simp, hg, hset, by simpa using hcap, hcm, by simp; omega, by simp⟩⟩, fun i x hx => ?_⟩
  have hi : i < l.length := by have := (List.getElem?_eq_some_iff.1 hx).1; simpa using this
  by_cases hik : i = k
  · subst hik
    rw [List.getElem?_set_self hi] at hx
    simp only [Option.some.injEq] at hx
    subst hx
    have hc : i < cur.size := by omega
    refine ⟨u, by simp [hi, hc], ?_⟩
    obtain ⟨a, c, h1, h2, h3⟩ := hu
    refine ⟨a, c, h1, h2, ?_⟩
    rcases h3 with h3 | ⟨b, g1, g2, g3, g4, g5⟩
    · exact .inl h3
    · exact .inr ⟨b, g1, by omega, by simpa using g3, by simp only [Value.ownBlock, ne_eq, Option.some.injEq]; omega, g5.move (heap_set _ _ _ _ _ (by omega))⟩
  · rw [List.getElem?_set_ne (Ne.symm hik)] at hx
    obtain ⟨v, g1, g2⟩ := hk i x hx
    refine ⟨v, by simp [hi, Ne.symm hik]; simpa using g1, ?_⟩
    exact g2.keep (by simp; omega) (fun b a1 a2 a3 => ⟨by rw [heap_set _ _ _ _ _ (fun e => a3 (by rw [e]))]; exact hb.block b (by omega), a3⟩)
/-- A chain copied by append onto nothing, as a row that may grow. -/
theorem app_copy (l : List Ve) (a : Option Addr) (g c N0 : Nat) (W : World) (hr : VeRow 0 W.heap.size W a l) (hl : l.length ≤ 1048576) (hg : N0 ≤ g) (hh : W.heap[g]? = some (.cells #[] 61 (0, 0))) :
    ∃ v W', (Builtin.append_ #[58, 58] 58 #[.slice (some ⟨g, 0, none⟩) 0 0, .slice a l.length c]).run Try.prog W = .ok v W' ∧ W'.ownsRow N0 61 2 v l.length (veCells l) ∧ Below W.heap.size W W' := by
  obtain ⟨i, hi, hz, hsz, hby⟩ := info_Ve
  have ht := Try.underlying58
  have hgl : g < W.heap.size := (Array.getElem?_eq_some_iff.1 hh).1
  by_cases h0 : l = []
  · subst h0
    have hsrc : Src Try.prog i.size 58 (.slice a 0 c) 0 [] W := by
      cases a
      · exact Src.ofNil W ht c
      · exact Src.ofSlice W ht _ 0 c [] (by simp) (by simp) (by simp)
    exact ⟨_, W, run_append_nothing (P := Try.prog) W _ _ _ _ i ht hi _ 0 0 (Nat.le_refl _) _ hsrc, ⟨rfl, .inr ⟨g, 0, #[], rfl, hg, hh, Nat.le_refl _, Nat.zero_le _, rfl, rfl⟩⟩, Below.refl _ _⟩
  · rcases hr with h | ⟨b, o, rfl, _, hb, hx⟩
    · exact absurd h h0
    have hlen := veCells_len l
    have hpos : 0 < l.length := List.length_pos_iff.2 h0
    have hsrc : Src Try.prog i.size 58 (.slice (some ⟨b, o, none⟩) l.length c) l.length (veCells l) W := Src.ofSlice W ht _ _ c _ (by rw [hsz]; exact hlen) (veCells_src hx) (veCells_one l)
    have hold : (Builtin.firstCells i.size 0 (.slice (some ⟨g, 0, none⟩) 0 0)).run Try.prog W.drew = .ok ([] : List Value).toArray W.drew := run_firstCells_some W.drew i.size 0 _ 0 0 [] (by simp) (by simp)
    have hrun := run_append_grow_src (P := Try.prog) W 58 58 58 61 i _ ht hi hz (some ⟨g, 0, none⟩) 0 0 [] hold _ l.length (veCells l) hsrc (by omega) (by omega) (growslice_fits (by omega) (by rw [hby]; omega))
    simp only [Nat.zero_add, List.nil_append] at hrun
    have hge := grownCap_ge W l.length 0 61
    refine ⟨_, _, hrun, ⟨hlen, .inr ⟨W.heap.size, _, _, rfl, by omega, heap_alloc_new W.drew _, hge, grownCap_le_maxLen _ _ _ _ (by unfold maxLen; omega), ?_, ?_⟩⟩, ((Below.refl _ _).drew).alloc (Nat.le_refl _) _⟩
    · simp [hlen, Builtin.zeroCells, Value.cells]; omega
    · simp [hlen]
theorem app_ver (n : Nat) (xs : List Ve) (p : Ve) (v : Value) (base h : Nat) (W : World) (ho : W.ownsRow base 61 2 v xs.length (veCells xs)) (hu : W.heap[h]? = some (.cells #[.int .i64 p.ts, .int .i64 p.v] 61 (0, 0))) (hk : xs.length ≤ 1048576) (hb : base ≤ W.heap.size) :
    ∃ g cap W', (Builtin.append_ #[58, 58] 58 #[v, .slice (some ⟨h, 0, none⟩) 1 1]).run Try.prog W = .ok (.slice (some ⟨g, 0, none⟩) (xs.length + 1) cap) W' ∧ W'.ownsRow base 61 2 (.slice (some ⟨g, 0, none⟩) (xs.length + 1) cap) (xs.length + 1) (veCells (xs ++ [p])) ∧ W.grownBy W' v.ownBlock ∧ g < W'.heap.size := by
  obtain ⟨i, hi, hz, hsz, hby⟩ := info_Ve
  have e : veCells (xs ++ [p]) = veCells xs ++ [.int .i64 p.ts, .int .i64 p.v] := by simp [veCells]
  rw [e]
  obtain ⟨g, cap, W', h1, h2, h3, h4, h5⟩ := run_append_lies (P := Try.prog) W 58 58 base 61 i _ 2 16 Try.underlying58 hi hz hsz hby rfl (by decide) v xs.length (veCells xs) ho ⟨h, 0, none⟩ 1 1 [.int .i64 p.ts, .int .i64 p.v] rfl (fun j x hx => by
    rw [add_plain]
    match j, hx with
    | 0, hx => simp only [List.getElem?_cons_zero, Option.some.injEq] at hx; subst hx; exact row_cell hu 0
    | 1, hx => simp only [List.getElem?_cons_succ, List.getElem?_cons_zero, Option.some.injEq] at hx; subst hx; exact row_cell hu 1) (fun x hx => by
      simp only [List.mem_cons, List.not_mem_nil, or_false] at hx
      rcases hx with rfl | rfl <;> rfl) (by omega) (by unfold maxLen; omega) (by omega) hb W.heap.size rfl
  exact ⟨g, cap, W', h1, h2, h3, h5⟩
theorem kid_of {base : Nat} {w : World} {v : Value} {x : List Ve} (h : w.ownsRow base 61 2 v x.length (veCells x)) (hne : 0 < x.length) : KidX none base w v x := by
  rcases h.2 with ⟨_, h0⟩ | ⟨g, cap, cur, rfl, h1, h2, h3, h4, h5, h6⟩
  · omega
  · refine ⟨_, cap, rfl, h3, .inr ⟨g, rfl, h1, (Array.getElem?_eq_some_iff.1 h2).1, by simp, cur, h2, by omega, fun i y hy => ?_⟩⟩
    obtain ⟨g0, g1⟩ := veCells_at x i y hy
    have hi := (List.getElem?_eq_some_iff.1 hy).1
    rw [← h6, List.getElem?_take, if_pos (by omega)] at g0 g1
    exact ⟨by simpa using g0, by simpa using g1⟩
end Go.Proofs.Ytoahbfledamnnaa.G
namespace Go.Proofs.Ytoahbfledamnnaa.G
open Go.ChangeShapes Go.WideShapes Go.ChangeAt Go.RowKit
set_option linter.unusedVariables false

theorem nuV_len (x : List Int) : (nuV x).length = x.length := by simp [nuV]
theorem nuV_at {x : List Int} {i : Nat} {z : Int} (h : x[i]? = some z) : (nuV x)[i]? = some (.int .i64 z) := by simp [nuV, h]
theorem nuV_one (x : List Int) : ∀ u ∈ nuV x, u.oneCell' = true := by
  intro u hu
  simp only [nuV, List.mem_map] at hu
  obtain ⟨z, _, rfl⟩ := hu
  rfl
theorem nuV_src {w : World} {b o : Nat} {x : List Int} (h : ∀ i z, x[i]? = some z → NuAt (rdOf w b) (o + i * 1) z) : ∀ j u, (nuV x)[j]? = some u → w.cell? ((⟨b, o, none⟩ : Addr).add j) = some u := by
  intro j u hu
  have hj : j < x.length := by have := (List.getElem?_eq_some_iff.1 hu).1; rwa [nuV_len] at this
  have h1 := h j x[j] (List.getElem?_eq_getElem hj)
  rw [nuV_at (List.getElem?_eq_getElem hj)] at hu
  simp only [Option.some.injEq] at hu
  subst hu
  rw [add_plain]
  have : rdOf w b (o + j * 1) = some (.int .i64 x[j]) := h1
  rw [Nat.mul_one] at this
  exact this
/-- Numbers copied by append onto nothing. -/
theorem app_copy_nu (x : List Int) (a : Option Addr) (g c N0 : Nat) (W : World) (hr : NuRow 0 W.heap.size W a x) (hl : x.length ≤ 1048576) (hg : N0 ≤ g) (hh : W.heap[g]? = some (.cells #[] 3 (0, 0))) :
    ∃ v W', (Builtin.append_ #[27, 27] 27 #[.slice (some ⟨g, 0, none⟩) 0 0, .slice a x.length c]).run Try.prog W = .ok v W' ∧ W'.ownsRow N0 3 1 v x.length (nuV x) ∧ Below W.heap.size W W' := by
  obtain ⟨i, hi, hz, hsz, hby⟩ := info_int
  have ht := Try.underlying27
  have hgl : g < W.heap.size := (Array.getElem?_eq_some_iff.1 hh).1
  by_cases h0 : x = []
  · subst h0
    have hsrc : Src Try.prog i.size 27 (.slice a 0 c) 0 [] W := by
      cases a
      · exact Src.ofNil W ht c
      · exact Src.ofSlice W ht _ 0 c [] (by simp) (by simp) (by simp)
    exact ⟨_, W, run_append_nothing (P := Try.prog) W _ _ _ _ i ht hi _ 0 0 (Nat.le_refl _) _ hsrc, ⟨rfl, .inr ⟨g, 0, #[], rfl, hg, hh, Nat.le_refl _, Nat.zero_le _, rfl, rfl⟩⟩, Below.refl _ _⟩
  · rcases hr with h | ⟨b, o, rfl, _, hb, hx⟩
    · exact absurd h h0
    have hlen := nuV_len x
    have hpos : 0 < x.length := List.length_pos_iff.2 h0
    have hsrc : Src Try.prog i.size 27 (.slice (some ⟨b, o, none⟩) x.length c) x.length (nuV x) W := Src.ofSlice W ht _ _ c _ (by rw [hsz, hlen, Nat.mul_one]) (nuV_src hx) (nuV_one x)
    have hold : (Builtin.firstCells i.size 0 (.slice (some ⟨g, 0, none⟩) 0 0)).run Try.prog W.drew = .ok ([] : List Value).toArray W.drew := run_firstCells_some W.drew i.size 0 _ 0 0 [] (by simp) (by simp)
    have hrun := run_append_grow_src (P := Try.prog) W 27 27 27 3 i _ ht hi hz (some ⟨g, 0, none⟩) 0 0 [] hold _ x.length (nuV x) hsrc (by omega) (by omega) (growslice_fits (by omega) (by rw [hby]; omega))
    simp only [Nat.zero_add, List.nil_append] at hrun
    have hge := grownCap_ge W x.length 0 3
    refine ⟨_, _, hrun, ⟨by rw [hlen, Nat.mul_one], .inr ⟨W.heap.size, _, _, rfl, by omega, heap_alloc_new W.drew _, hge, grownCap_le_maxLen _ _ _ _ (by unfold maxLen; omega), ?_, ?_⟩⟩, ((Below.refl _ _).drew).alloc (Nat.le_refl _) _⟩
    · simp [hlen, Builtin.zeroCells, Value.cells]; omega
    · simp [hlen]
/-- Writes copied by append onto nothing. -/
theorem app_copy_pu (l : List Ve) (a : Option Addr) (g c N0 : Nat) (W : World) (hr : VeRow 0 W.heap.size W a l) (hl : l.length ≤ 1048576) (hg : N0 ≤ g) (hh : W.heap[g]? = some (.cells #[] 43 (0, 0))) :
    ∃ v W', (Builtin.append_ #[28, 28] 28 #[.slice (some ⟨g, 0, none⟩) 0 0, .slice a l.length c]).run Try.prog W = .ok v W' ∧ W'.ownsRow N0 43 2 v l.length (veCells l) ∧ Below W.heap.size W W' := by
  obtain ⟨i, hi, hz, hsz, hby⟩ := info_PuX
  have ht := Try.underlying28
  have hgl : g < W.heap.size := (Array.getElem?_eq_some_iff.1 hh).1
  by_cases h0 : l = []
  · subst h0
    have hsrc : Src Try.prog i.size 28 (.slice a 0 c) 0 [] W := by
      cases a
      · exact Src.ofNil W ht c
      · exact Src.ofSlice W ht _ 0 c [] (by simp) (by simp) (by simp)
    exact ⟨_, W, run_append_nothing (P := Try.prog) W _ _ _ _ i ht hi _ 0 0 (Nat.le_refl _) _ hsrc, ⟨rfl, .inr ⟨g, 0, #[], rfl, hg, hh, Nat.le_refl _, Nat.zero_le _, rfl, rfl⟩⟩, Below.refl _ _⟩
  · rcases hr with h | ⟨b, o, rfl, _, hb, hx⟩
    · exact absurd h h0
    have hlen := veCells_len l
    have hpos : 0 < l.length := List.length_pos_iff.2 h0
    have hsrc : Src Try.prog i.size 28 (.slice (some ⟨b, o, none⟩) l.length c) l.length (veCells l) W := Src.ofSlice W ht _ _ c _ (by rw [hsz]; exact hlen) (veCells_src hx) (veCells_one l)
    have hold : (Builtin.firstCells i.size 0 (.slice (some ⟨g, 0, none⟩) 0 0)).run Try.prog W.drew = .ok ([] : List Value).toArray W.drew := run_firstCells_some W.drew i.size 0 _ 0 0 [] (by simp) (by simp)
    have hrun := run_append_grow_src (P := Try.prog) W 28 28 28 43 i _ ht hi hz (some ⟨g, 0, none⟩) 0 0 [] hold _ l.length (veCells l) hsrc (by omega) (by omega) (growslice_fits (by omega) (by rw [hby]; omega))
    simp only [Nat.zero_add, List.nil_append] at hrun
    have hge := grownCap_ge W l.length 0 43
    refine ⟨_, _, hrun, ⟨hlen, .inr ⟨W.heap.size, _, _, rfl, by omega, heap_alloc_new W.drew _, hge, grownCap_le_maxLen _ _ _ _ (by unfold maxLen; omega), ?_, ?_⟩⟩, ((Below.refl _ _).drew).alloc (Nat.le_refl _) _⟩
    · simp [hlen, Builtin.zeroCells, Value.cells]; omega
    · simp [hlen]
theorem PuOwn.of {base : Nat} {w : World} {v : Value} {x : List Ve} (h : w.ownsRow base 43 2 v x.length (veCells x)) : ∃ a c, v = .slice a x.length c ∧ PuOwn base w.heap.size w a x := by
  rcases h.2 with ⟨rfl, h0⟩ | ⟨g, cap, cur, rfl, h1, h2, h3, h4, h5, h6⟩
  · have : x = [] := List.eq_nil_of_length_eq_zero h0
    subst this
    exact ⟨none, 0, rfl, .inl rfl⟩
  · refine ⟨_, cap, rfl, .inr ⟨g, rfl, h1, (Array.getElem?_eq_some_iff.1 h2).1, cur, h2, by omega, fun i y hy => ?_⟩⟩
    obtain ⟨g0, g1⟩ := veCells_at x i y hy
    have hi := (List.getElem?_eq_some_iff.1 hy).1
    rw [← h6, List.getElem?_take, if_pos (by omega)] at g0 g1
    exact ⟨by simpa using g0, by simpa using g1⟩
/-- A transaction that a call owns and may append to. -/
def TxO (lo : Nat) (w : World) (rv wv : Value) (rs : List Int) (ws : List Ve) : Prop := w.ownsRow lo 3 1 rv rs.length (nuV rs) ∧ w.ownsRow lo 43 2 wv ws.length (veCells ws)
theorem TxO.own {lo : Nat} {w : World} {rv wv : Value} {rs : List Int} {ws : List Ve} (h : TxO lo w rv wv rs ws) : ∃ ra rc wa wc, rv = .slice ra rs.length rc ∧ wv = .slice wa ws.length wc ∧ TxOwn lo w.heap.size w ra wa rs ws := by
  obtain ⟨ra, rc, e1, h1⟩ := NuOwn.of h.1
  obtain ⟨wa, wc, e2, h2⟩ := PuOwn.of h.2
  exact ⟨ra, rc, wa, wc, e1, e2, h1, h2⟩
theorem own_lt3 {w : World} {base size n : Nat} {e : TypeId} {v : Value} {xs : List Value} (h : w.ownsRow base e size v n xs) (g : Nat) (hg : v.ownBlock = some g) : base ≤ g ∧ g < w.heap.size := by
  rcases h.2 with ⟨e, _⟩ | ⟨g', cap, cur, e, h1, h2, _⟩
  · subst e; cases hg
  · subst e
    simp only [Value.ownBlock, Option.some.injEq] at hg
    subst hg
    exact ⟨h1, (Array.getElem?_eq_some_iff.1 h2).1⟩
theorem TxO.move {lo : Nat} {w w' : World} {rv wv : Value} {rs : List Int} {ws : List Ve} (h : TxO lo w rv wv rs ws) (hk : ∀ k, lo ≤ k → k < w.heap.size → w'.heap[k]? = w.heap[k]?) : TxO lo w' rv wv rs ws :=
  ⟨own_set h.1 (fun g hg => hk g (own_lt3 h.1 g hg).1 (own_lt3 h.1 g hg).2), own_set h.2 (fun g hg => hk g (own_lt3 h.2 g hg).1 (own_lt3 h.2 g hg).2)⟩
theorem TxO.low {lo lo' : Nat} {w : World} {rv wv : Value} {rs : List Int} {ws : List Ve} (h : TxO lo w rv wv rs ws) (hl : lo' ≤ lo) : TxO lo' w rv wv rs ws := ⟨own_low h.1 hl, own_low h.2 hl⟩
theorem lastW_take2 {k : Int} {ps : List Ve} {i : Nat} (hi : i < ps.length) : lastW k (ps.take (i + 1)) = if ps[i].ts = k then some ps[i].v else lastW k (ps.take i) := by
  unfold lastW; rw [List.take_succ_eq_append_getElem hi, List.foldl_append]; rfl
theorem lastW_from {k : Int} {ps : List Ve} {n : Nat} (hn : n ≤ ps.length) (h : ∀ j (hj : j < ps.length), n ≤ j → ps[j].ts ≠ k) : lastW k ps = lastW k (ps.take n) := by
  have key : ∀ d, n + d ≤ ps.length → lastW k (ps.take (n + d)) = lastW k (ps.take n) := by
    intro d
    induction d with
    | zero => intro _; rfl
    | succ d ih =>
      intro hd
      rw [← Nat.add_assoc, lastW_take2 (by omega), if_neg (h _ (by omega) (by omega))]
      exact ih (by omega)
  have := key (ps.length - n) (by omega)
  rw [show n + (ps.length - n) = ps.length by omega, List.take_length] at this
  exact this
def wroteV (ws : List Ve) (key : Int) : Int := (lastW key ws).getD 0
def wroteB (ws : List Ve) (key : Int) : Bool := (lastW key ws).isSome
theorem ret_ib {a b : Int} {c d : Bool} (h1 : a = b) (h2 : c = d) : Ending.returned (.tuple #[.int .i64 a, .bool c]) = .returned (.tuple #[.int .i64 b, .bool d]) := by rw [h1, h2]
set_option maxHeartbeats 2000000 in
theorem spec_wrote (a : Option Addr) (c : Nat) (ws : List Ve) (key : Int) (w : World) (hr : VeRow 0 w.heap.size w a ws) (hl : ws.length ≤ 1048576) :
    Calls Try.prog 65 #[.slice a ws.length c, .int .i64 key] w fun e w' => e = .returned (.tuple #[.int .i64 (wroteV ws key), .bool (wroteB ws key)]) ∧ w' = w := by
  have HR : Hid _ := hr
  clear hr
  go_enter Try.func65, Try.ntmps65
  go_wp2_with fail
  go_loop [6] (fun i => ∃ (n : Nat) (z : Int), n ≤ ws.length ∧ i = .int .i64 z ∧ z = (n : Int) - 1 ∧ Hid (∀ j (hj : j < ws.length), n ≤ j → ws[j].ts ≠ key)) (fun i => (intOf i + 1).toNat)
  case atStart => exact ⟨ws.length, _, Nat.le_refl _, rfl, rfl, fun j hj h => by omega⟩
  case round =>
    obtain ⟨n, z, hn, rfl, hz, HN⟩ := hrel
    by_cases h0 : n = 0
    · subst h0
      have hz' : ¬ 0 ≤ z := by omega
      have HL : Hid (lastW key ws = none) := by rw [Hid, lastW_from (Nat.zero_le _) HN.out]; rfl
      have H1 : Hid (0 = wroteV ws key) := by rw [Hid, wroteV, HL.out]; rfl
      have H2 : Hid (false = wroteB ws key) := by rw [Hid, wroteB, HL.out]; rfl
      clear hz
      go_wp2_with fail
      go_ret2
      exact ⟨ret_ib H1.out H2.out, rfl⟩
    · obtain ⟨m, rfl⟩ : ∃ m, n = m + 1 := ⟨n - 1, by omega⟩
      obtain rfl : z = (m : Int) := by omega
      have hm : m < ws.length := by omega
      obtain ⟨b, o, ha, _, hbl, d0, d1⟩ := VeRow.cells HR.out m hm
      subst ha
      have hlt' : (m : Int) < ws.length := by omega
      have hge : (0 : Int) ≤ m := by omega
      by_cases he : ws[m].ts = key
      · have HL : Hid (lastW key ws = some ws[m].v) := by rw [Hid, lastW_from hn HN.out, lastW_take2 hm, if_pos he]
        have H1 : Hid (ws[m].v = wroteV ws key) := by rw [Hid, wroteV, HL.out]; rfl
        have H2 : Hid (true = wroteB ws key) := by rw [Hid, wroteB, HL.out]; rfl
        rw [he] at d0
        clear he hz
        go_wp2_with fail
        go_ret2
        exact ⟨ret_ib H1.out H2.out, rfl⟩
      · have he' : (ws[m].ts == key) = false := by simpa using he
        have HN2 : Hid (∀ j (hj : j < ws.length), m ≤ j → ws[j].ts ≠ key) := fun j hj h => by
          by_cases e : j = m
          · subst e; exact he
          · exact HN.out j hj (by omega)
        clear he hz
        go_wp2_with fail
        go_round
        case rel => exact ⟨m, _, by omega, by first | rfl | go_num, by omega, HN2⟩
        case measure => simp [intOf]
end Go.Proofs.Ytoahbfledamnnaa.G
