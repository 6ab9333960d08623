/- Tokens put together to a text: that the program's own text of it does it. -/
import Derived.Test.YtjbogjoadcikhaaDoorJoinTwo
namespace Go.Proofs.YtjbogjoadcikhaaDoor
open Go.ChangeShapes Go.WideShapes Go.ChangeAt Go.RowKit
set_option linter.unusedVariables false

theorem impl_join (N c n : Nat) (ss : List ByteArray) (w : World) (hn : ss.length = n) (hc : n ≤ c) (hcells : ∀ (j : Nat) x, ss[j]? = some x → w.cell? ⟨N, j, none⟩ = some (.string x)) (hN : N < w.heap.size) (hm : n ≤ 4000) (hs : ∀ s ∈ ss, s.size ≤ 1048600) :
    Calls Tryd.prog 14 #[.slice (some ⟨N, 0, none⟩) n c, .string ⟨#[32]⟩] w fun e w' => e = .returned (.string (joinS ss)) ∧ Below w.heap.size w w' := by
  subst hn
  have e := joinS_list ss
  have hz := joinTo_size ss hs ss.length
  have hle : (Lib.join (ss.map (·.data.toList)) [32]).length ≤ 140737488355328 := by
    have e2 : (joinS ss).size = (Lib.join (ss.map (·.data.toList)) [32]).length := by rw [e]; rfl
    rw [← e2]
    show (joinTo ss ss.length).size ≤ _
    omega
  refine (Tryd.strings_Join N 0 c ss ⟨#[32]⟩ w (fun j x hx => by rw [Nat.zero_add]; exact hcells j x hx) hN (by omega) hc hle).mono ?_
  rintro e1 w1 ⟨rfl, hb⟩
  exact ⟨by rw [e], hb⟩

def LaidS (cs : Array Value) (l : List Tk) (k : Nat) : Prop := ∀ i x, i < k → l[i]? = some x → cs[i]? = some (.string (textOf x))
theorem LaidS.put {cs : Array Value} {l : List Tk} {k : Nat} (h : LaidS cs l k) (hk : k < l.length) (hs : cs.size = l.length) : LaidS (cs.setIfInBounds k (.string (textS l[k].k l[k].n l[k].t))) l (k + 1) := by
  intro i x hi hx
  by_cases hik : i = k
  · subst hik
    rw [List.getElem?_eq_getElem hk] at hx
    simp only [Option.some.injEq] at hx
    subst hx
    rw [Array.getElem?_setIfInBounds_self_of_lt (by omega)]; rfl
  · rw [Array.getElem?_setIfInBounds_ne (by omega)]; exact h i x (by omega) hx

set_option maxRecDepth 20000 in
set_option maxHeartbeats 2000000 in
theorem impl_joinToks (a : Option Addr) (c : Nat) (l : List Tk) (w : World) (hp : Pow w) (hr : TokRow w.heap.size w a l) (hl : l.length ≤ 1048576) (ht : ∀ x ∈ l, x.t.size ≤ 1048576) :
    Calls Tryd.prog 5 #[.slice a l.length c] w fun e w' => e = .returned (.tuple #[.string (joinB l), .int .i64 (joinC l)]) ∧ Below w.heap.size w w' := by
  by_cases h1 : 4096 < l.length
  · have H1 : Hid (joinB l = ⟨#[]⟩) := by unfold Hid joinB; rw [if_pos h1]
    have H2 : Hid (joinC l = 2) := by unfold Hid joinC; rw [if_pos h1]
    go_enter Tryd.func5, Tryd.ntmps5
    go_wp2_with fail
    go_ret2
    exact ⟨by rw [H1.out, H2.out]; rfl, Below.refl _ _⟩
  by_cases h2 : 4000 < l.length
  · have H1 : Hid (joinB l = ⟨#[]⟩) := by unfold Hid joinB; rw [if_neg h1, if_pos h2]
    have H2 : Hid (joinC l = 6) := by unfold Hid joinC; rw [if_neg h1, if_pos h2]
    go_enter Tryd.func5, Tryd.ntmps5
    go_wp2_with fail
    go_ret2
    exact ⟨by rw [H1.out, H2.out]; rfl, Below.refl _ _⟩
  have HR : Hid (TokRow w.heap.size w a l) := hr
  have HT : Hid (∀ x ∈ l, x.t.size ≤ 1048576) := ht
  have HP : Hid (Pow w) := hp
  clear hr ht hp
  obtain ⟨i9, hi, hz, hsz, hby⟩ := info_parts info9
  have hmk := run_make (P := Tryd.prog) w 31 9 i9 _ Tryd.underlying31 hi hz .i64 .i64 (l.length : Int) (l.length : Int) (by omega) (by omega) (by rw [hby]; omega) (by omega)
  rw [hsz, Int.toNat_natCast, Nat.mul_one] at hmk
  clear hi hz hsz hby
  have hs0 := size_madeCells (Value.string ⟨#[]⟩).cells l.length
  generalize madeCells (Value.string ⟨#[]⟩).cells l.length = cs0 at *
  go_enter Tryd.func5, Tryd.ntmps5
  go_wp2_with fail
  go_loopw [22] (fun i w' => ∃ (k : Nat) (cs : Array Value), k ≤ l.length ∧ i = .int .i64 k ∧ Below w.heap.size w w' ∧ Hid (w'.heap[w.heap.size]? = some (.cells cs 9 (0, 0))) ∧ cs.size = l.length ∧ Hid (LaidS cs l k) ∧ Hid (allT (l.take k) = true)) (fun i _ => l.length - (intOf i).toNat)
  case atStart => exact ⟨0, cs0, by omega, rfl, (Below.refl _ _).alloc (Nat.le_refl _) _, heap_alloc_new _ _, hs0, (fun i x h => by omega), rfl⟩
  case round =>
    rename_i wr
    obtain ⟨k, cs, hk, rfl, hb, HH, hcs, HL, HA⟩ := hrel
    clear hmk hs0
    by_cases hlt : k < l.length
    · obtain ⟨b, o, ha, hbl, c0, c1, c2⟩ := (HR.out.below hb (Nat.le_refl _)).at_ k hlt
      subst ha
      have hsz := HT.out l[k] (List.getElem_mem hlt)
      cases hok : tokB l[k].k l[k].n l[k].t
      · have hno := allT_no hlt hok
        have H1 : Hid (joinB l = ⟨#[]⟩) := by unfold Hid joinB; rw [if_neg h1, if_neg h2, if_neg (by rw [hno]; decide)]
        have H2 : Hid (joinC l = 1) := by unfold Hid joinC; rw [if_neg h1, if_neg h2, if_neg (by rw [hno]; decide)]
        clear hno
        go_wp2_with fail
        refine (impl_tokText_no _ _ _ _ hsz hok).mono ?_
        rintro e w1 ⟨rfl, hb1⟩
        have q0 := hb.alloc hb.size (.cells #[.int .i64 l[k].k, .int .i64 l[k].n, .string l[k].t] 29)
        have q1 := q0.trans (hb1.mono (by have := hb.size; simp; omega))
        go_wp2_with fail
        go_ret2
        exact ⟨by rw [H1.out, H2.out]; rfl, q1⟩
      · go_wp2_with fail
        have q0 := hb.alloc hb.size (.cells #[.int .i64 l[k].k, .int .i64 l[k].n, .string l[k].t] 29)
        have HP0 := HP.out.below q0 HP.out.pos
        refine (impl_tokText_yes _ _ _ _ hsz HP0 hok).mono ?_
        rintro e w1 ⟨rfl, hb1⟩
        have q1 := q0.trans (hb1.mono (by have := hb.size; simp; omega))
        have hN : w.heap.size < wr.heap.size := (Array.getElem?_eq_some_iff.1 HH.out).1
        have HH1 : Hid (w1.heap[w.heap.size]? = some (.cells cs 9 (0, 0))) := ((hb1.block _ (by simp; omega)).trans (Below.heap_alloc _ _ _ hN)).trans HH.out
        obtain ⟨v0, hv0⟩ : ∃ v, w1.cell? ⟨w.heap.size, k, none⟩ = some v := ⟨_, (row_cell HH1.out _).trans (Array.getElem?_eq_getElem (by omega))⟩
        have hf0 := row_frozen HH1.out k
        have HF := allT_take hlt HA.out hok
        have HPT := HL.out.put hlt hcs
        clear c0 c1 c2 HP0
        go_wp2_with fail
        exact ⟨⟨k + 1, _, by omega, by go_num, q1.setCell (Nat.le_refl _) _, row_set HH1.out _ _, by simpa using hcs, HPT, HF⟩, by simp [intOf]; omega⟩
    · obtain rfl : k = l.length := by omega
      rw [List.take_length] at HA
      have H1 : Hid (joinB l = joinS (l.map textOf)) := by unfold Hid joinB; rw [if_neg h1, if_neg h2, if_pos HA.out]
      have H2 : Hid (joinC l = 0) := by unfold Hid joinC; rw [if_neg h1, if_neg h2, if_pos HA.out]
      have HZ : Hid (∀ s ∈ l.map textOf, s.size ≤ 1048600) := by
        intro s hs
        obtain ⟨x, hx, rfl⟩ := List.mem_map.1 hs
        exact text_size x (HT.out x hx) (List.all_eq_true.1 HA.out x hx)
      have HC : Hid (∀ (j : Nat) x, (l.map textOf)[j]? = some x → wr.cell? ⟨w.heap.size, j, none⟩ = some (.string x)) := by
        intro j x hx
        rw [List.getElem?_map] at hx
        obtain ⟨y, hy, rfl⟩ := Option.map_eq_some_iff.1 hx
        rw [row_cell HH.out]
        exact HL.out j y (List.getElem?_eq_some_iff.1 hy).1 hy
      have HM : Hid ((l.map textOf).length = l.length) := List.length_map _
      have hN : w.heap.size < wr.heap.size := (Array.getElem?_eq_some_iff.1 HH.out).1
      generalize l.map textOf = ss at *
      go_wp2_with fail
      refine (impl_join w.heap.size l.length l.length ss _ HM.out (Nat.le_refl _) HC.out hN (by omega) HZ.out).mono ?_
      rintro e w2 ⟨rfl, hb2⟩
      go_wp2_with fail
      go_ret2
      exact ⟨by rw [H1.out, H2.out]; rfl, hb.trans (hb2.mono hb.size)⟩
end Go.Proofs.YtjbogjoadcikhaaDoor
