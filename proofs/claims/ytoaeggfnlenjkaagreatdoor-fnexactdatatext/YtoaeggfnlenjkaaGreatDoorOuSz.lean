/- What the law counts of a value ahead of all. -/
import Derived.Test.YtoaeggfnlenjkaaGreatDoorOuRows
import Derived.Deep.CutBlock
import Derived.Deep.CutRange
namespace Go.Proofs.YtoaeggfnlenjkaaGreatDoor.G
open Go.ChangeShapes Go.WideShapes Go.ChangeAt Go.RowKit
set_option linter.unusedVariables false

set_option maxHeartbeats 1000000 in
theorem sz_keys (a : Option Addr) (c : Nat) (l : List ByteArray) (n : Int) (w : World) (hr : KeRow 0 w.heap.size w a l) (hl : l.length ≤ maxLen) (ht : ∀ x ∈ l, x.size ≤ maxLen) (h0 : 0 ≤ n) (h1 : n ≤ 1048576) :
    Calls Tryz.prog 19 #[.slice a l.length c, .int .i64 n] w fun e w' => ∃ m, e = .returned (.int .i64 m) ∧ Sz n m (l.length ≤ 1048576 ∧ ∀ x ∈ l, x.size ≤ 1048576) ∧ w' = w := by
  unfold maxLen at hl
  by_cases hz : n - l.length < 0
  · go_enter Tryz.func19, Tryz.ntmps19
    go_wp2_with fail
    go_ret
    exact ⟨-1, rfl, Sz.neg h0, rfl⟩
  · have HR : Hid (KeRow 0 w.heap.size w a l) := hr
    have HT : Hid (∀ x ∈ l, x.size ≤ maxLen) := ht
    clear hr ht
    go_enter Tryz.func19, Tryz.ntmps19
    go_wp2_with fail
    go_loop [1, 5] (fun r i => ∃ (k : Nat) (m : Int), k ≤ l.length ∧ i = .int .i64 k ∧ r = .int .i64 m ∧ 0 ≤ m ∧ m ≤ n ∧ Hid (∀ x ∈ l.take k, x.size ≤ 1048576)) (fun _ i => l.length - (intOf i).toNat)
    case atStart => exact ⟨0, _, by omega, rfl, rfl, by omega, by omega, by simp [Hid]⟩
    case round =>
      obtain ⟨k, m, hk, rfl, rfl, hm0, hm1, HK⟩ := hrel
      by_cases hlt : k < l.length
      · obtain ⟨b, o, ha, _, hbl, c0⟩ := KeRow.cells HR.out k hlt
        subst ha
        have hx : l[k].size ≤ maxLen := HT.out l[k] (List.getElem_mem hlt)
        unfold maxLen at hx
        by_cases hneg : m - l[k].size < 0
        · go_wp2_with fail
          go_ret
          exact ⟨-1, rfl, Sz.neg h0, rfl⟩
        · go_wp2_with fail
          go_round
          case rel => exact ⟨k + 1, m - l[k].size, by omega, by go_num, by go_num, by omega, by omega, all_take hlt HK.out (by omega)⟩
          case measure => simp [intOf]; omega
      · go_wp2_with fail
        go_ret
        rw [List.take_of_length_le (by omega)] at HK
        exact ⟨m, rfl, ⟨hm1, by omega, fun _ => ⟨by omega, HK.out⟩⟩, rfl⟩
def SzOus (l : Ous) : Prop := ∀ (a : Option Addr) (c : Nat) (n : Int) (w : World), OuRow 0 w.heap.size w a l → l.len ≤ maxLen → OusBd maxLen l → 0 ≤ n → n ≤ 1048576 →
    Calls Tryz.prog 53 #[.slice a l.len c, .int .i64 n] w fun e w' => ∃ m, e = .returned (.int .i64 m) ∧ Sz n m (l.len ≤ 1048576 ∧ OusBd 1048576 l) ∧ Below w.heap.size w w'
set_option maxHeartbeats 1000000 in
theorem sz_out (h : Oh) (sub : Ous) (ih : SzOus sub) (a1 a2 : Option Addr) (c1 c2 : Nat) (n : Int) (w : World) (r1 : KeRow 0 w.heap.size w a1 h.keys) (r2 : OuRow 0 w.heap.size w a2 sub)
    (hb : OhBd maxLen h) (hl : sub.len ≤ maxLen) (hs : OusBd maxLen sub) (h0 : 0 ≤ n) (h1 : n ≤ 1048576) :
    Calls Tryz.prog 18 #[.agg #[.int .i64 h.k, .int .i64 h.n, .string h.t, .slice a1 h.keys.length c1, .slice a2 sub.len c2], .int .i64 n] w fun e w' =>
      ∃ m, e = .returned (.int .i64 m) ∧ Sz n m (OhBd 1048576 h ∧ sub.len ≤ 1048576 ∧ OusBd 1048576 sub) ∧ Below w.heap.size w w' := by
  obtain ⟨b1, b2, b3⟩ := hb
  have b1' := b1
  unfold maxLen at b1'
  have H3 : Hid (∀ x ∈ h.keys, x.size ≤ maxLen) := b3
  have HS : Hid (OusBd maxLen sub) := hs
  have HI : Hid (SzOus sub) := ih
  obtain ⟨V, hV⟩ : ∃ V, V = w.alloc (.cells #[.int .i64 h.k, .int .i64 h.n, .string h.t, .slice a1 h.keys.length c1, .slice a2 sub.len c2] 41) := ⟨_, rfl⟩
  have B0 : Below w.heap.size w V := by rw [hV]; exact (Below.refl _ _).alloc (Nat.le_refl _) _
  have c0 : V.heap[w.heap.size]? = some (.cells #[.int .i64 h.k, .int .i64 h.n, .string h.t, .slice a1 h.keys.length c1, .slice a2 sub.len c2] 41 (0, 0)) := by rw [hV]; exact heap_alloc_new _ _
  have x0 := fun o => row_cell c0 o
  have R1 : Hid (KeRow 0 V.heap.size V a1 h.keys) := KeRow.up r1 B0
  have R2 : Hid (OuRow 0 V.heap.size V a2 sub) := OuRow.up r2 B0
  have HB : Hid _ := B0
  clear b3 hs ih r1 r2 B0 c0
  by_cases g1 : n - h.t.size < 0
  · go_enter Tryz.func18, Tryz.ntmps18
    go_upto_region 1 with fail
    rw [← hV]
    clear hV
    go_wp2_with fail
    go_ret
    exact ⟨-1, rfl, Sz.neg h0, HB.out⟩
  go_enter Tryz.func18, Tryz.ntmps18
  go_upto_region 1 with fail
  rw [← hV]
  clear hV
  go_wp2_with fail
  refine (sz_keys a1 c1 h.keys _ _ R1.out b2 H3.out (by omega) (by omega)).mono ?_
  rintro e w1 ⟨m1, rfl, hm, hw⟩
  rw [hw]
  clear hw w1
  have M1 : Hid _ := hm
  have u1 := hm.1
  clear hm
  by_cases n1 : m1 < 0
  · go_wp2_with fail
    go_ret
    exact ⟨-1, rfl, Sz.neg h0, HB.out⟩
  go_wp2_with fail
  refine (HI.out a2 c2 _ _ R2.out hl HS.out (by omega) (by omega)).mono ?_
  rintro e w3 ⟨m3, rfl, hm, hb3⟩
  have M3 : Hid _ := hm
  have u3 := hm.1
  clear hm
  have q3 : Below w.heap.size w w3 := HB.out.trans (hb3.mono HB.out.size)
  clear hb3
  by_cases n3 : m3 < 0
  · go_wp2_with fail
    go_ret
    exact ⟨-1, rfl, Sz.neg h0, q3⟩
  · go_wp2_with fail
    go_ret
    exact ⟨m3, rfl, ⟨by omega, by omega, fun _ => ⟨⟨by omega, (M1.out.2.2 (by omega)).1, (M1.out.2.2 (by omega)).2⟩, M3.out.2.2 (by omega)⟩⟩, q3⟩
/-- From the k-th value on. -/
theorem sz_ous : ∀ l : Ous, SzOus l := by
  suffices H : ∀ (m : Nat) (l : Ous), l.size ≤ m → SzOus l from fun l => H l.size l (Nat.le_refl _)
  intro m
  induction m with
  | zero =>
    intro l hl
    cases l with
    | cons h s r => simp [Ous.size] at hl
    | nil =>
      intro a c n w hr hlen hbd h0 h1
      simp only [Ous.len]
      go_enter Tryz.func53, Tryz.ntmps53
      go_wp2_with fail
      go_loop [1, 5] (fun r i => r = .int .i64 n ∧ i = .int .i64 0) (fun _ _ => 0)
      case atStart => exact ⟨by simp, rfl⟩
      case round =>
        obtain ⟨rfl, rfl⟩ := hrel
        go_wp2_with fail
        go_ret
        exact ⟨n, rfl, ⟨Int.le_refl _, by omega, fun _ => by first | trivial | exact ⟨Nat.zero_le _, trivial⟩⟩, Below.refl _ _⟩
  | succ m ih =>
    intro l hl a c n w hr hlen hbd h0 h1
    unfold maxLen at hlen
    by_cases hz : n - l.len < 0
    · go_enter Tryz.func53, Tryz.ntmps53
      go_wp2_with fail
      go_ret
      exact ⟨-1, rfl, Sz.neg h0, Below.refl _ _⟩
    have HIH : Hid (∀ x : Ous, x.size ≤ m → SzOus x) := ih
    have HF : Hid (OuFrom 0 w.heap.size w a 0 l) := hr.from_
    have HD : Hid (OusBd maxLen l) := hbd
    have HSZ : Hid (l.size ≤ m + 1) := hl
    obtain ⟨N, hN⟩ : ∃ N, N = l.len := ⟨_, rfl⟩
    rw [← hN] at hlen hz ⊢
    have HN : Hid (l.len = N) := hN.symm
    clear hr hbd ih hl hN
    go_enter Tryz.func53, Tryz.ntmps53
    go_wp2_with fail
    go_loopw [1, 5] (fun r i w' => ∃ (k : Nat) (q : Int) (rest : Ous), i = .int .i64 k ∧ r = .int .i64 q ∧ k + rest.len = N ∧ 0 ≤ q ∧ q ≤ n ∧ Below w.heap.size w w' ∧ Hid (rest.size ≤ m + 1) ∧ Hid (OuFrom 0 w.heap.size w a k rest) ∧ Hid (OusBd maxLen rest) ∧ Hid (OusBd 1048576 rest → OusBd 1048576 l)) (fun _ i _ => N - (intOf i).toNat)
    case atStart => exact ⟨0, _, l, rfl, rfl, by rw [HN.out]; omega, by omega, by omega, Below.refl _ _, HSZ, HF, HD, fun h => h⟩
    case round =>
      obtain ⟨wo, rfl⟩ : ∃ x, x = wr := ⟨_, rfl⟩
      obtain ⟨k, q, rest, rfl, rfl, hk, hq0, hq1, hb, HS, HFr, HDr, HL⟩ := hrel
      cases rest with
      | nil =>
        simp only [Ous.len] at hk
        obtain rfl : k = N := by omega
        go_wp2_with fail
        go_ret
        exact ⟨q, rfl, ⟨hq1, by omega, fun _ => ⟨by first | omega | (rw [HN.out]; omega), HL.out trivial⟩⟩, hb⟩
      | cons h sub rest =>
        obtain ⟨b, o, a1, c1, a2, c2, ha, _, hbl, e0, e1, e2, e3, e4, hc, r1, r2, rf⟩ := OuFrom.step (OuFrom.keep HFr.out (agree hb (Nat.le_refl _)))
        subst ha
        obtain ⟨d1, d2, d3, d4⟩ := HDr.out
        have hs1 : sub.size ≤ m ∧ rest.size ≤ m + 1 := by have := HS.out; simp only [Ous.size] at this; omega
        have hlt : (k : Int) < N := by simp only [Ous.len] at hk; omega
        have R1 : Hid (KeRow 0 wo.heap.size wo a1 h.keys) := KeRow.wide r1 (Nat.le_refl _) hb.size
        have R2 : Hid (OuRow 0 wo.heap.size wo a2 sub) := OuRow.wide r2 (Nat.le_refl _) hb.size
        have D1 : Hid _ := d1
        have D3 : Hid _ := d3
        have D4 : Hid _ := d4
        have RF : Hid (OuFrom 0 w.heap.size w (some ⟨b, o, none⟩) (k + 1) rest) := by
          rcases HFr.out with h | ⟨b', o', e', f1, f2, f3⟩
          · cases h
          · simp only [Option.some.injEq, Addr.mk.injEq] at e'
            obtain ⟨rfl, rfl, _⟩ := e'
            obtain ⟨_, _, _, _, _, _, e9, _, _, _, _, _, _, _, _, _, _, rf9⟩ := OuFrom.step HFr.out
            exact rf9
        clear r1 r2 rf d1 d3 d4
        go_wp2_with fail
        refine (sz_out h sub (HIH.out sub hs1.1) a1 a2 c1 c2 q _ R1.out R2.out D1.out d2 D3.out hq0 (by omega)).mono ?_
        rintro e w1 ⟨m1, rfl, hm, hb1⟩
        have HM : Hid _ := hm
        have u1 := hm.1
        have qb : Below w.heap.size w w1 := hb.trans (hb1.mono hb.size)
        clear hm hb1 e0 e1 e2 e3 e4
        by_cases hneg : m1 < 0
        · go_wp2_with fail
          go_ret
          exact ⟨-1, rfl, Sz.neg h0, qb⟩
        · go_wp2_with fail
          exact ⟨⟨k + 1, m1, rest, by go_num, rfl, by simp only [Ous.len] at hk; omega, by omega, by omega, qb, hs1.2, RF, D4, fun hx => HL.out ⟨(HM.out.2.2 (by omega)).1, (HM.out.2.2 (by omega)).2.1, (HM.out.2.2 (by omega)).2.2, hx⟩⟩, by simp [intOf]; omega⟩
end Go.Proofs.YtoaeggfnlenjkaaGreatDoor.G
