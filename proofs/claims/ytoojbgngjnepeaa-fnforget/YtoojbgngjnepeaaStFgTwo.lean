/- The program's Forget, whole. -/
import Derived.Test.YtoojbgngjnepeaaStFg
namespace Go.Proofs.Ytoojbgngjnepeaa.G
open Go.ChangeShapes Go.WideShapes Go.ChangeAt Go.RowKit
set_option linter.unusedVariables false

set_option maxHeartbeats 2000000 in
theorem of_chains_fg (B : Nat) (low : Int) (a : Option Addr) (c : Nat) (l : Chs) (now : Int) (w : World) (hc : w.cell? ⟨B, 0, none⟩ = some (.int .i64 low)) (hB : B < w.heap.size) (hr : ChRow 0 w.heap.size w a l) (hbd : ChsBd 1048576 l) (hrise : ∀ i (h : i < l.length), Rise l[i]) :
    Calls Try.prog 16 #[.agg #[.slice a l.length c, .int .i64 now], .func (.func 17) #[] #[.pointer (some ⟨B, 0, none⟩)]] w fun e w' =>
      ∃ a' bs, e = .returned (.slice a' (fgS low l).length l.length) ∧ StOwn w.heap.size w'.heap.size w' a' (fgS low l) bs ∧ Below w.heap.size w w' := by
  obtain ⟨hl, ht⟩ := hbd
  obtain ⟨V, hV⟩ : ∃ V, V = w.alloc (.cells #[.slice a l.length c, .int .i64 now] 25) := ⟨_, rfl⟩
  have B0 : Below w.heap.size w V := by rw [hV]; exact (Below.refl _ _).alloc (Nat.le_refl _) _
  have zV : V.heap.size = w.heap.size + 1 := by rw [hV]; simp
  have HR : Hid (ChRow 0 V.heap.size V a l) := ChRow.up hr B0
  have HC : Hid (V.cell? ⟨B, 0, none⟩ = some (.int .i64 low)) := (B0.cell (p := ⟨B, 0, none⟩) hB).trans hc
  have HT : Hid (∀ x ∈ l, x.length ≤ 1048576) := ht
  have HS : Hid _ := hrise
  have HB : Hid _ := B0
  clear hr ht hrise hc B0
  obtain ⟨i27, hi, hz, hsz, hby⟩ := info_Ch
  have hmk := run_make (P := Try.prog) V 23 34 i27 _ Try.underlying23 hi hz .i64 .i64 (l.length : Int) (l.length : Int) (by omega) (by omega) (by rw [hby]; omega) (by omega)
  rw [hsz, Int.toNat_natCast, Nat.mul_one] at hmk
  clear hi hz hsz hby
  have hs0 := size_madeCells (Value.slice none 0 0).cells l.length
  generalize madeCells (Value.slice none 0 0).cells l.length = cs0 at *
  rw [hV] at hmk
  go_enter Try.func16, Try.ntmps16
  go_wp2_with fail
  have hN : V.heap.size = w.heap.size + 1 := zV
  rw [← hV]
  have hst : Below V.heap.size V (V.alloc (.cells cs0 34)) := (Below.refl _ _).alloc (Nat.le_refl _) _
  have hst2 : (V.alloc (.cells cs0 34)).heap[w.heap.size + 1]? = some (.cells cs0 34 (0, 0)) := by rw [← zV]; exact heap_alloc_new _ _
  have HST : Hid _ := hst2
  clear hst2 hmk
  go_loopw [15] (fun i w' => ∃ (k : Nat) (cs : Array Value) (bs : Nat → Nat), k ≤ l.length ∧ i = .int .i64 k ∧ Below V.heap.size V w' ∧ Hid (w'.heap[w.heap.size + 1]? = some (.cells cs 34 (0, 0))) ∧ cs.size = l.length ∧ Hid (ChLaid (w.heap.size + 1) w' cs (fgS low l) k bs)) (fun i _ => l.length - (intOf i).toNat)
  case atStart => exact ⟨0, cs0, fun _ => 0, by omega, rfl, hst, HST, hs0, ⟨fun i x h => by omega, fun i j h => by omega⟩⟩
  case round =>
    obtain ⟨k, cs, bs, hk, rfl, hb, HH, hcs, HL⟩ := hrel
    obtain ⟨wo, rfl⟩ : ∃ x, x = wr := ⟨_, rfl⟩
    have hz := hb.size
    have hN2 : w.heap.size + 1 < wo.heap.size := (Array.getElem?_eq_some_iff.1 HH.out).1
    clear hs0 hst HST hV
    by_cases hlt : k < l.length
    · obtain ⟨b, o, a3, c3, ha, _, hbl, d0, hcap, r3⟩ := ChRow.cells (ChRow.keep HR.out (agree hb (Nat.le_refl _))) k hlt
      subst ha
      have R3 : Hid (VeRow 0 wo.heap.size wo a3 l[k]) := VeRow.wide r3 (Nat.le_refl _) hb.size
      have HX : Hid (l[k].length ≤ 1048576) := HT.out l[k] (List.getElem_mem hlt)
      have CW : Hid (wo.cell? ⟨B, 0, none⟩ = some (.int .i64 low)) := (hb.cell (p := ⟨B, 0, none⟩) (show B < V.heap.size by omega)).trans HC.out
      clear r3
      go_wp2_with fail
      refine (fg_closure B low a3 c3 l[k] _ CW.out R3.out HX.out hcap (HS.out k hlt)).mono ?_
      rintro e w1 ⟨N, rfl, hNN, v1, hb1⟩
      have hfl : k < (fgS low l).length := by rw [fgS_len]; exact hlt
      have hfe : (fgS low l)[k] = fgC low l[k] := by have := fgS_at (low := low) hlt; rw [List.getElem?_eq_getElem hfl] at this; simpa using this
      have V1 : Hid (VeBlk w1 N (fgS low l)[k]) := by rw [hfe]; exact v1
      have HFE : Hid ((fgC low l[k]).length = (fgS low l)[k].length) := by rw [hfe]; exact rfl
      have HH1 : Hid (w1.heap[w.heap.size + 1]? = some (.cells cs 34 (0, 0))) := (hb1.block _ hN2).trans HH.out
      have HL1 : Hid (ChLaid (w.heap.size + 1) w1 cs (fgS low l) k bs) := ChLaid.keep HL.out hb1.size (agree hb1 (Nat.le_refl _))
      have HNE : Hid (∀ i, i < k → bs i ≠ N) := fun i hi => by
        obtain ⟨_, _, _, _, h4, _⟩ := HL.out.1 i _ hi (fgS_at (show i < l.length by omega))
        omega
      obtain ⟨v0, hv0⟩ : ∃ v, w1.cell? ⟨w.heap.size + 1, k, none⟩ = some v := ⟨_, (row_cell HH1.out _).trans (Array.getElem?_eq_getElem (by omega))⟩
      have hf0 := row_frozen HH1.out k
      have qb : Hid (Below V.heap.size V w1) := hb.trans (hb1.mono hb.size)
      have hz2 : N < w1.heap.size := V1.out.lt
      clear d0 v1 hb1 hfe
      rw [HFE.out]
      go_wp2_with fail
      refine ⟨⟨k + 1, _, bput bs k N, by omega, by go_num, qb.out.setCell (by first | omega | (simp <;> omega)) _, row_set HH1.out _ _, by simp [hcs], ?_⟩, by simp [intOf]; omega⟩
      refine ChLaid.put (g := N) (c := ((fgS low l)[k]'hfl).length) (ChLaid.keep HL1.out (by simp) ?_) hfl (by rw [fgS_len]; omega) (Nat.le_refl _) (by omega) (by simpa using hz2) (V1.out.move ?_) HNE.out
      · intro g h1 h2
        exact heap_set _ _ _ _ _ (by omega)
      · exact heap_set _ _ _ _ _ (by omega)
    · go_wp2_with fail
      go_ret
      obtain rfl : k = l.length := by omega
      have hl2 := fgS_len low l
      refine ⟨_, bs, by rw [hl2]; rfl, ?_, HB.out.trans (hb.mono (by omega))⟩
      exact StOwn.wide (StOwn.of_laid (by rw [hl2]; exact HL.out) HH.out (by omega)) (by omega) (Nat.le_refl _)
end Go.Proofs.Ytoojbgngjnepeaa.G
