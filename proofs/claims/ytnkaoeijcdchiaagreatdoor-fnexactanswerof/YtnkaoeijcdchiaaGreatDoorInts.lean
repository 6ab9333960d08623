/- Numbers and names on both sides. -/
import Derived.Test.YtnkaoeijcdchiaaGreatDoorOuOwn
import Derived.Deep.CutBlock
import Derived.Deep.CutRange
import Derived.Test.YtnkaoeijcdchiaaGreatDoorOuRows
import Derived.Test.YtnkaoeijcdchiaaGreatDoorStMark
import Derived.Test.YtnkaoeijcdchiaaGreatDoorNameOK
namespace Go.Proofs.YtnkaoeijcdchiaaGreatDoor.G
open Go.ChangeShapes Go.WideShapes Go.ChangeAt Go.RowKit
set_option linter.unusedVariables false

def wO : Ous → Nat
  | .nil => 0
  | .cons h sub rest => 1 + h.keys.length + wO sub + wO rest
def wN : Ous → Nat
  | .nil => 0
  | .cons h sub rest => h.keys.length + wO sub + wN rest
theorem wO_eq : ∀ l : Ous, wO l = l.len + wN l
  | .nil => rfl
  | .cons h sub rest => by simp only [wO, wN, Ous.len, wO_eq rest]; omega
theorem cO_w : ∀ l : Ous, cO l ≤ 3 * wO l
  | .nil => Nat.le_refl _
  | .cons h sub rest => by have := cO_w sub; have := cO_w rest; simp only [cO, cOh, wO]; omega
set_option maxHeartbeats 1000000 in
theorem sz_keys_w (a : Option Addr) (c : Nat) (l : List ByteArray) (n : Int) (w : World) (hr : KeRow 0 w.heap.size w a l) (hl : l.length ≤ maxLen) (ht : ∀ x ∈ l, x.size ≤ maxLen) (h0 : 0 ≤ n) (h1 : n ≤ 1048576) :
    Calls Tryz.prog 24 #[.slice a l.length c, .int .i64 n] w fun e w' => ∃ m, e = .returned (.int .i64 m) ∧ Sz n m ((l.length ≤ 1048576 ∧ ∀ x ∈ l, x.size ≤ 1048576) ∧ m + l.length ≤ n) ∧ w' = w := by
  unfold maxLen at hl
  by_cases hz : n - l.length < 0
  · go_enter Tryz.func24, Tryz.ntmps24
    go_wp2_with fail
    go_ret
    exact ⟨-1, rfl, Sz.neg h0, rfl⟩
  · have HR : Hid (KeRow 0 w.heap.size w a l) := hr
    have HT : Hid (∀ x ∈ l, x.size ≤ maxLen) := ht
    clear hr ht
    go_enter Tryz.func24, Tryz.ntmps24
    go_wp2_with fail
    go_loop [1, 5] (fun r i => ∃ (k : Nat) (m : Int), k ≤ l.length ∧ i = .int .i64 k ∧ r = .int .i64 m ∧ 0 ≤ m ∧ m + l.length ≤ n ∧ Hid (∀ x ∈ l.take k, x.size ≤ 1048576)) (fun _ i => l.length - (intOf i).toNat)
    case atStart => exact ⟨0, _, by omega, rfl, rfl, by omega, by omega, by simp [Hid]⟩
    case round =>
      obtain ⟨k, m, hk, rfl, rfl, hm0, hm1, HK⟩ := hrel
      by_cases hlt : k < l.length
      · obtain ⟨b, o, ha, _, hbl, c0⟩ := KeRow.cells HR.out k hlt
        subst ha
        have hx : l[k].size ≤ maxLen := HT.out l[k] (List.getElem_mem hlt)
        unfold maxLen at hx
        by_cases hneg : m - l[k].size < 0
        · go_wp2_with fail
          go_ret
          exact ⟨-1, rfl, Sz.neg h0, rfl⟩
        · go_wp2_with fail
          go_round
          case rel => exact ⟨k + 1, m - l[k].size, by omega, by go_num, by go_num, by omega, by omega, all_take hlt HK.out (by omega)⟩
          case measure => simp [intOf]; omega
      · go_wp2_with fail
        go_ret
        rw [List.take_of_length_le (by omega)] at HK
        exact ⟨m, rfl, ⟨by omega, by omega, fun _ => ⟨⟨by omega, HK.out⟩, hm1⟩⟩, rfl⟩
def SzOus_w (l : Ous) : Prop := ∀ (a : Option Addr) (c : Nat) (n : Int) (w : World), OuRow 0 w.heap.size w a l → l.len ≤ maxLen → OusBd maxLen l → 0 ≤ n → n ≤ 1048576 →
    Calls Tryz.prog 47 #[.slice a l.len c, .int .i64 n] w fun e w' => ∃ m, e = .returned (.int .i64 m) ∧ Sz n m ((l.len ≤ 1048576 ∧ OusBd 1048576 l) ∧ m + wO l ≤ n) ∧ Below w.heap.size w w'
set_option maxHeartbeats 1000000 in
theorem sz_out_w (h : Oh) (sub : Ous) (ih : SzOus_w sub) (a1 a2 : Option Addr) (c1 c2 : Nat) (n : Int) (w : World) (r1 : KeRow 0 w.heap.size w a1 h.keys) (r2 : OuRow 0 w.heap.size w a2 sub)
    (hb : OhBd maxLen h) (hl : sub.len ≤ maxLen) (hs : OusBd maxLen sub) (h0 : 0 ≤ n) (h1 : n ≤ 1048576) :
    Calls Tryz.prog 23 #[.agg #[.int .i64 h.k, .int .i64 h.n, .string h.t, .slice a1 h.keys.length c1, .slice a2 sub.len c2], .int .i64 n] w fun e w' =>
      ∃ m, e = .returned (.int .i64 m) ∧ Sz n m ((OhBd 1048576 h ∧ sub.len ≤ 1048576 ∧ OusBd 1048576 sub) ∧ m + h.keys.length + wO sub ≤ n) ∧ Below w.heap.size w w' := by
  obtain ⟨b1, b2, b3⟩ := hb
  have b1' := b1
  unfold maxLen at b1'
  have H3 : Hid (∀ x ∈ h.keys, x.size ≤ maxLen) := b3
  have HS : Hid (OusBd maxLen sub) := hs
  have HI : Hid (SzOus_w sub) := ih
  obtain ⟨V, hV⟩ : ∃ V, V = w.alloc (.cells #[.int .i64 h.k, .int .i64 h.n, .string h.t, .slice a1 h.keys.length c1, .slice a2 sub.len c2] 30) := ⟨_, rfl⟩
  have B0 : Below w.heap.size w V := by rw [hV]; exact (Below.refl _ _).alloc (Nat.le_refl _) _
  have c0 : V.heap[w.heap.size]? = some (.cells #[.int .i64 h.k, .int .i64 h.n, .string h.t, .slice a1 h.keys.length c1, .slice a2 sub.len c2] 30 (0, 0)) := by rw [hV]; exact heap_alloc_new _ _
  have x0 := fun o => row_cell c0 o
  have R1 : Hid (KeRow 0 V.heap.size V a1 h.keys) := KeRow.up r1 B0
  have R2 : Hid (OuRow 0 V.heap.size V a2 sub) := OuRow.up r2 B0
  have HB : Hid _ := B0
  clear b3 hs ih r1 r2 B0 c0
  by_cases g1 : n - h.t.size < 0
  · go_enter Tryz.func23, Tryz.ntmps23
    go_upto_region 1 with fail
    rw [← hV]
    clear hV
    go_wp2_with fail
    go_ret
    exact ⟨-1, rfl, Sz.neg h0, HB.out⟩
  go_enter Tryz.func23, Tryz.ntmps23
  go_upto_region 1 with fail
  rw [← hV]
  clear hV
  go_wp2_with fail
  refine (sz_keys_w a1 c1 h.keys _ _ R1.out b2 H3.out (by omega) (by omega)).mono ?_
  rintro e w1 ⟨m1, rfl, hm, hw⟩
  rw [hw]
  clear hw w1
  have M1 : Hid _ := hm
  have u1 := hm.1
  clear hm
  by_cases n1 : m1 < 0
  · go_wp2_with fail
    go_ret
    exact ⟨-1, rfl, Sz.neg h0, HB.out⟩
  go_wp2_with fail
  refine (HI.out a2 c2 _ _ R2.out hl HS.out (by omega) (by omega)).mono ?_
  rintro e w3 ⟨m3, rfl, hm, hb3⟩
  have M3 : Hid _ := hm
  have u3 := hm.1
  clear hm
  have q3 : Below w.heap.size w w3 := HB.out.trans (hb3.mono HB.out.size)
  clear hb3
  by_cases n3 : m3 < 0
  · go_wp2_with fail
    go_ret
    exact ⟨-1, rfl, Sz.neg h0, q3⟩
  · go_wp2_with fail
    go_ret
    exact ⟨m3, rfl, ⟨by omega, by omega, fun _ => ⟨⟨⟨by omega, (M1.out.2.2 (by omega)).1.1, (M1.out.2.2 (by omega)).1.2⟩, (M3.out.2.2 (by omega)).1⟩, by have h1 := (M1.out.2.2 (by omega)).2; have h2 := (M3.out.2.2 (by omega)).2; omega⟩⟩, q3⟩
/-- From the k-th value on. -/
theorem sz_ous_w : ∀ l : Ous, SzOus_w l := by
  suffices H : ∀ (m : Nat) (l : Ous), l.size ≤ m → SzOus_w l from fun l => H l.size l (Nat.le_refl _)
  intro m
  induction m with
  | zero =>
    intro l hl
    cases l with
    | cons h s r => simp [Ous.size] at hl
    | nil =>
      intro a c n w hr hlen hbd h0 h1
      simp only [Ous.len]
      go_enter Tryz.func47, Tryz.ntmps47
      go_wp2_with fail
      go_loop [1, 5] (fun r i => r = .int .i64 n ∧ i = .int .i64 0) (fun _ _ => 0)
      case atStart => exact ⟨by simp, rfl⟩
      case round =>
        obtain ⟨rfl, rfl⟩ := hrel
        go_wp2_with fail
        go_ret
        exact ⟨n, rfl, ⟨Int.le_refl _, by omega, fun _ => ⟨by first | trivial | exact ⟨Nat.zero_le _, trivial⟩, by simp [wO]⟩⟩, Below.refl _ _⟩
  | succ m ih =>
    intro l hl a c n w hr hlen hbd h0 h1
    unfold maxLen at hlen
    by_cases hz : n - l.len < 0
    · go_enter Tryz.func47, Tryz.ntmps47
      go_wp2_with fail
      go_ret
      exact ⟨-1, rfl, Sz.neg h0, Below.refl _ _⟩
    have HIH : Hid (∀ x : Ous, x.size ≤ m → SzOus_w x) := ih
    have HF : Hid (OuFrom 0 w.heap.size w a 0 l) := hr.from_
    have HD : Hid (OusBd maxLen l) := hbd
    have HSZ : Hid (l.size ≤ m + 1) := hl
    obtain ⟨N, hN⟩ : ∃ N, N = l.len := ⟨_, rfl⟩
    rw [← hN] at hlen hz ⊢
    have HN : Hid (l.len = N) := hN.symm
    clear hr hbd ih hl hN
    go_enter Tryz.func47, Tryz.ntmps47
    go_wp2_with fail
    go_loopw [1, 5] (fun r i w' => ∃ (k : Nat) (q : Int) (rest : Ous), i = .int .i64 k ∧ r = .int .i64 q ∧ k + rest.len = N ∧ 0 ≤ q ∧ q ≤ n ∧ Below w.heap.size w w' ∧ Hid (rest.size ≤ m + 1) ∧ Hid (OuFrom 0 w.heap.size w a k rest) ∧ Hid (OusBd maxLen rest) ∧ Hid (OusBd 1048576 rest → OusBd 1048576 l) ∧ Hid (q + N + wN l ≤ n + wN rest)) (fun _ i _ => N - (intOf i).toNat)
    case atStart => exact ⟨0, _, l, rfl, rfl, by rw [HN.out]; omega, by omega, by omega, Below.refl _ _, HSZ, HF, HD, fun h => h, by unfold Hid; omega⟩
    case round =>
      obtain ⟨wo, rfl⟩ : ∃ x, x = wr := ⟨_, rfl⟩
      obtain ⟨k, q, rest, rfl, rfl, hk, hq0, hq1, hb, HS, HFr, HDr, HL, HWT⟩ := hrel
      cases rest with
      | nil =>
        simp only [Ous.len] at hk
        obtain rfl : k = N := by omega
        go_wp2_with fail
        go_ret
        exact ⟨q, rfl, ⟨hq1, by omega, fun _ => ⟨⟨by first | omega | (rw [HN.out]; omega), HL.out trivial⟩, by have h1 := HWT.out; have h2 := HN.out; simp only [wN] at h1; rw [wO_eq]; omega⟩⟩, hb⟩
      | cons h sub rest =>
        obtain ⟨b, o, a1, c1, a2, c2, ha, _, hbl, e0, e1, e2, e3, e4, hc, r1, r2, rf⟩ := OuFrom.step (OuFrom.keep HFr.out (agree hb (Nat.le_refl _)))
        subst ha
        obtain ⟨d1, d2, d3, d4⟩ := HDr.out
        have hs1 : sub.size ≤ m ∧ rest.size ≤ m + 1 := by have := HS.out; simp only [Ous.size] at this; omega
        have hlt : (k : Int) < N := by simp only [Ous.len] at hk; omega
        have R1 : Hid (KeRow 0 wo.heap.size wo a1 h.keys) := KeRow.wide r1 (Nat.le_refl _) hb.size
        have R2 : Hid (OuRow 0 wo.heap.size wo a2 sub) := OuRow.wide r2 (Nat.le_refl _) hb.size
        have D1 : Hid _ := d1
        have D3 : Hid _ := d3
        have D4 : Hid _ := d4
        have RF : Hid (OuFrom 0 w.heap.size w (some ⟨b, o, none⟩) (k + 1) rest) := by
          rcases HFr.out with h | ⟨b', o', e', f1, f2, f3⟩
          · cases h
          · simp only [Option.some.injEq, Addr.mk.injEq] at e'
            obtain ⟨rfl, rfl, _⟩ := e'
            obtain ⟨_, _, _, _, _, _, e9, _, _, _, _, _, _, _, _, _, _, rf9⟩ := OuFrom.step HFr.out
            exact rf9
        clear r1 r2 rf d1 d3 d4
        go_wp2_with fail
        refine (sz_out_w h sub (HIH.out sub hs1.1) a1 a2 c1 c2 q _ R1.out R2.out D1.out d2 D3.out hq0 (by omega)).mono ?_
        rintro e w1 ⟨m1, rfl, hm, hb1⟩
        have HM : Hid _ := hm
        have u1 := hm.1
        have qb : Below w.heap.size w w1 := hb.trans (hb1.mono hb.size)
        clear hm hb1 e0 e1 e2 e3 e4
        by_cases hneg : m1 < 0
        · go_wp2_with fail
          go_ret
          exact ⟨-1, rfl, Sz.neg h0, qb⟩
        · go_wp2_with fail
          exact ⟨⟨k + 1, m1, rest, by go_num, rfl, by simp only [Ous.len] at hk; omega, by omega, by omega, qb, hs1.2, RF, D4, fun hx => HL.out ⟨(HM.out.2.2 (by omega)).1.1, (HM.out.2.2 (by omega)).1.2.1, (HM.out.2.2 (by omega)).1.2.2, hx⟩, by have h1 := HWT.out; have h2 := (HM.out.2.2 (by omega)).2; simp only [wN] at h1; unfold Hid; omega⟩, by simp [intOf]; omega⟩
end Go.Proofs.YtnkaoeijcdchiaaGreatDoor.G
namespace Go.Proofs.YtnkaoeijcdchiaaGreatDoor.G
open Go.ChangeShapes Go.WideShapes Go.ChangeAt Go.RowKit
set_option linter.unusedVariables false

set_option maxHeartbeats 1000000 in
theorem sz_keys (a : Option Addr) (c : Nat) (l : List ByteArray) (n : Int) (w : World) (hr : KeRow 0 w.heap.size w a l) (hl : l.length ≤ maxLen) (ht : ∀ x ∈ l, x.size ≤ maxLen) (h0 : 0 ≤ n) (h1 : n ≤ 1048576) :
    Calls Tryz.prog 24 #[.slice a l.length c, .int .i64 n] w fun e w' => ∃ m, e = .returned (.int .i64 m) ∧ Sz n m (l.length ≤ 1048576 ∧ ∀ x ∈ l, x.size ≤ 1048576) ∧ w' = w := by
  unfold maxLen at hl
  by_cases hz : n - l.length < 0
  · go_enter Tryz.func24, Tryz.ntmps24
    go_wp2_with fail
    go_ret
    exact ⟨-1, rfl, Sz.neg h0, rfl⟩
  · have HR : Hid (KeRow 0 w.heap.size w a l) := hr
    have HT : Hid (∀ x ∈ l, x.size ≤ maxLen) := ht
    clear hr ht
    go_enter Tryz.func24, Tryz.ntmps24
    go_wp2_with fail
    go_loop [1, 5] (fun r i => ∃ (k : Nat) (m : Int), k ≤ l.length ∧ i = .int .i64 k ∧ r = .int .i64 m ∧ 0 ≤ m ∧ m ≤ n ∧ Hid (∀ x ∈ l.take k, x.size ≤ 1048576)) (fun _ i => l.length - (intOf i).toNat)
    case atStart => exact ⟨0, _, by omega, rfl, rfl, by omega, by omega, by simp [Hid]⟩
    case round =>
      obtain ⟨k, m, hk, rfl, rfl, hm0, hm1, HK⟩ := hrel
      by_cases hlt : k < l.length
      · obtain ⟨b, o, ha, _, hbl, c0⟩ := KeRow.cells HR.out k hlt
        subst ha
        have hx : l[k].size ≤ maxLen := HT.out l[k] (List.getElem_mem hlt)
        unfold maxLen at hx
        by_cases hneg : m - l[k].size < 0
        · go_wp2_with fail
          go_ret
          exact ⟨-1, rfl, Sz.neg h0, rfl⟩
        · go_wp2_with fail
          go_round
          case rel => exact ⟨k + 1, m - l[k].size, by omega, by go_num, by go_num, by omega, by omega, all_take hlt HK.out (by omega)⟩
          case measure => simp [intOf]; omega
      · go_wp2_with fail
        go_ret
        rw [List.take_of_length_le (by omega)] at HK
        exact ⟨m, rfl, ⟨hm1, by omega, fun _ => ⟨by omega, HK.out⟩⟩, rfl⟩
def SzOus (l : Ous) : Prop := ∀ (a : Option Addr) (c : Nat) (n : Int) (w : World), OuRow 0 w.heap.size w a l → l.len ≤ maxLen → OusBd maxLen l → 0 ≤ n → n ≤ 1048576 →
    Calls Tryz.prog 47 #[.slice a l.len c, .int .i64 n] w fun e w' => ∃ m, e = .returned (.int .i64 m) ∧ Sz n m (l.len ≤ 1048576 ∧ OusBd 1048576 l) ∧ Below w.heap.size w w'
set_option maxHeartbeats 1000000 in
theorem sz_out (h : Oh) (sub : Ous) (ih : SzOus sub) (a1 a2 : Option Addr) (c1 c2 : Nat) (n : Int) (w : World) (r1 : KeRow 0 w.heap.size w a1 h.keys) (r2 : OuRow 0 w.heap.size w a2 sub)
    (hb : OhBd maxLen h) (hl : sub.len ≤ maxLen) (hs : OusBd maxLen sub) (h0 : 0 ≤ n) (h1 : n ≤ 1048576) :
    Calls Tryz.prog 23 #[.agg #[.int .i64 h.k, .int .i64 h.n, .string h.t, .slice a1 h.keys.length c1, .slice a2 sub.len c2], .int .i64 n] w fun e w' =>
      ∃ m, e = .returned (.int .i64 m) ∧ Sz n m (OhBd 1048576 h ∧ sub.len ≤ 1048576 ∧ OusBd 1048576 sub) ∧ Below w.heap.size w w' := by
  obtain ⟨b1, b2, b3⟩ := hb
  have b1' := b1
  unfold maxLen at b1'
  have H3 : Hid (∀ x ∈ h.keys, x.size ≤ maxLen) := b3
  have HS : Hid (OusBd maxLen sub) := hs
  have HI : Hid (SzOus sub) := ih
  obtain ⟨V, hV⟩ : ∃ V, V = w.alloc (.cells #[.int .i64 h.k, .int .i64 h.n, .string h.t, .slice a1 h.keys.length c1, .slice a2 sub.len c2] 30) := ⟨_, rfl⟩
  have B0 : Below w.heap.size w V := by rw [hV]; exact (Below.refl _ _).alloc (Nat.le_refl _) _
  have c0 : V.heap[w.heap.size]? = some (.cells #[.int .i64 h.k, .int .i64 h.n, .string h.t, .slice a1 h.keys.length c1, .slice a2 sub.len c2] 30 (0, 0)) := by rw [hV]; exact heap_alloc_new _ _
  have x0 := fun o => row_cell c0 o
  have R1 : Hid (KeRow 0 V.heap.size V a1 h.keys) := KeRow.up r1 B0
  have R2 : Hid (OuRow 0 V.heap.size V a2 sub) := OuRow.up r2 B0
  have HB : Hid _ := B0
  clear b3 hs ih r1 r2 B0 c0
  by_cases g1 : n - h.t.size < 0
  · go_enter Tryz.func23, Tryz.ntmps23
    go_upto_region 1 with fail
    rw [← hV]
    clear hV
    go_wp2_with fail
    go_ret
    exact ⟨-1, rfl, Sz.neg h0, HB.out⟩
  go_enter Tryz.func23, Tryz.ntmps23
  go_upto_region 1 with fail
  rw [← hV]
  clear hV
  go_wp2_with fail
  refine (sz_keys a1 c1 h.keys _ _ R1.out b2 H3.out (by omega) (by omega)).mono ?_
  rintro e w1 ⟨m1, rfl, hm, hw⟩
  rw [hw]
  clear hw w1
  have M1 : Hid _ := hm
  have u1 := hm.1
  clear hm
  by_cases n1 : m1 < 0
  · go_wp2_with fail
    go_ret
    exact ⟨-1, rfl, Sz.neg h0, HB.out⟩
  go_wp2_with fail
  refine (HI.out a2 c2 _ _ R2.out hl HS.out (by omega) (by omega)).mono ?_
  rintro e w3 ⟨m3, rfl, hm, hb3⟩
  have M3 : Hid _ := hm
  have u3 := hm.1
  clear hm
  have q3 : Below w.heap.size w w3 := HB.out.trans (hb3.mono HB.out.size)
  clear hb3
  by_cases n3 : m3 < 0
  · go_wp2_with fail
    go_ret
    exact ⟨-1, rfl, Sz.neg h0, q3⟩
  · go_wp2_with fail
    go_ret
    exact ⟨m3, rfl, ⟨by omega, by omega, fun _ => ⟨⟨by omega, (M1.out.2.2 (by omega)).1, (M1.out.2.2 (by omega)).2⟩, M3.out.2.2 (by omega)⟩⟩, q3⟩
/-- From the k-th value on. -/
theorem sz_ous : ∀ l : Ous, SzOus l := by
  suffices H : ∀ (m : Nat) (l : Ous), l.size ≤ m → SzOus l from fun l => H l.size l (Nat.le_refl _)
  intro m
  induction m with
  | zero =>
    intro l hl
    cases l with
    | cons h s r => simp [Ous.size] at hl
    | nil =>
      intro a c n w hr hlen hbd h0 h1
      simp only [Ous.len]
      go_enter Tryz.func47, Tryz.ntmps47
      go_wp2_with fail
      go_loop [1, 5] (fun r i => r = .int .i64 n ∧ i = .int .i64 0) (fun _ _ => 0)
      case atStart => exact ⟨by simp, rfl⟩
      case round =>
        obtain ⟨rfl, rfl⟩ := hrel
        go_wp2_with fail
        go_ret
        exact ⟨n, rfl, ⟨Int.le_refl _, by omega, fun _ => by first | trivial | exact ⟨Nat.zero_le _, trivial⟩⟩, Below.refl _ _⟩
  | succ m ih =>
    intro l hl a c n w hr hlen hbd h0 h1
    unfold maxLen at hlen
    by_cases hz : n - l.len < 0
    · go_enter Tryz.func47, Tryz.ntmps47
      go_wp2_with fail
      go_ret
      exact ⟨-1, rfl, Sz.neg h0, Below.refl _ _⟩
    have HIH : Hid (∀ x : Ous, x.size ≤ m → SzOus x) := ih
    have HF : Hid (OuFrom 0 w.heap.size w a 0 l) := hr.from_
    have HD : Hid (OusBd maxLen l) := hbd
    have HSZ : Hid (l.size ≤ m + 1) := hl
    obtain ⟨N, hN⟩ : ∃ N, N = l.len := ⟨_, rfl⟩
    rw [← hN] at hlen hz ⊢
    have HN : Hid (l.len = N) := hN.symm
    clear hr hbd ih hl hN
    go_enter Tryz.func47, Tryz.ntmps47
    go_wp2_with fail
    go_loopw [1, 5] (fun r i w' => ∃ (k : Nat) (q : Int) (rest : Ous), i = .int .i64 k ∧ r = .int .i64 q ∧ k + rest.len = N ∧ 0 ≤ q ∧ q ≤ n ∧ Below w.heap.size w w' ∧ Hid (rest.size ≤ m + 1) ∧ Hid (OuFrom 0 w.heap.size w a k rest) ∧ Hid (OusBd maxLen rest) ∧ Hid (OusBd 1048576 rest → OusBd 1048576 l)) (fun _ i _ => N - (intOf i).toNat)
    case atStart => exact ⟨0, _, l, rfl, rfl, by rw [HN.out]; omega, by omega, by omega, Below.refl _ _, HSZ, HF, HD, fun h => h⟩
    case round =>
      obtain ⟨wo, rfl⟩ : ∃ x, x = wr := ⟨_, rfl⟩
      obtain ⟨k, q, rest, rfl, rfl, hk, hq0, hq1, hb, HS, HFr, HDr, HL⟩ := hrel
      cases rest with
      | nil =>
        simp only [Ous.len] at hk
        obtain rfl : k = N := by omega
        go_wp2_with fail
        go_ret
        exact ⟨q, rfl, ⟨hq1, by omega, fun _ => ⟨by first | omega | (rw [HN.out]; omega), HL.out trivial⟩⟩, hb⟩
      | cons h sub rest =>
        obtain ⟨b, o, a1, c1, a2, c2, ha, _, hbl, e0, e1, e2, e3, e4, hc, r1, r2, rf⟩ := OuFrom.step (OuFrom.keep HFr.out (agree hb (Nat.le_refl _)))
        subst ha
        obtain ⟨d1, d2, d3, d4⟩ := HDr.out
        have hs1 : sub.size ≤ m ∧ rest.size ≤ m + 1 := by have := HS.out; simp only [Ous.size] at this; omega
        have hlt : (k : Int) < N := by simp only [Ous.len] at hk; omega
        have R1 : Hid (KeRow 0 wo.heap.size wo a1 h.keys) := KeRow.wide r1 (Nat.le_refl _) hb.size
        have R2 : Hid (OuRow 0 wo.heap.size wo a2 sub) := OuRow.wide r2 (Nat.le_refl _) hb.size
        have D1 : Hid _ := d1
        have D3 : Hid _ := d3
        have D4 : Hid _ := d4
        have RF : Hid (OuFrom 0 w.heap.size w (some ⟨b, o, none⟩) (k + 1) rest) := by
          rcases HFr.out with h | ⟨b', o', e', f1, f2, f3⟩
          · cases h
          · simp only [Option.some.injEq, Addr.mk.injEq] at e'
            obtain ⟨rfl, rfl, _⟩ := e'
            obtain ⟨_, _, _, _, _, _, e9, _, _, _, _, _, _, _, _, _, _, rf9⟩ := OuFrom.step HFr.out
            exact rf9
        clear r1 r2 rf d1 d3 d4
        go_wp2_with fail
        refine (sz_out h sub (HIH.out sub hs1.1) a1 a2 c1 c2 q _ R1.out R2.out D1.out d2 D3.out hq0 (by omega)).mono ?_
        rintro e w1 ⟨m1, rfl, hm, hb1⟩
        have HM : Hid _ := hm
        have u1 := hm.1
        have qb : Below w.heap.size w w1 := hb.trans (hb1.mono hb.size)
        clear hm hb1 e0 e1 e2 e3 e4
        by_cases hneg : m1 < 0
        · go_wp2_with fail
          go_ret
          exact ⟨-1, rfl, Sz.neg h0, qb⟩
        · go_wp2_with fail
          exact ⟨⟨k + 1, m1, rest, by go_num, rfl, by simp only [Ous.len] at hk; omega, by omega, by omega, qb, hs1.2, RF, D4, fun hx => HL.out ⟨(HM.out.2.2 (by omega)).1, (HM.out.2.2 (by omega)).2.1, (HM.out.2.2 (by omega)).2.2, hx⟩⟩, by simp [intOf]; omega⟩
end Go.Proofs.YtnkaoeijcdchiaaGreatDoor.G
namespace Go.Proofs.YtnkaoeijcdchiaaGreatDoor.G
open Go.ChangeShapes Go.WideShapes Go.ChangeAt Go.RowKit
set_option linter.unusedVariables false

theorem spec_nameOK (s : ByteArray) (w : World) (hs : s.size ≤ maxLen) :
    Calls Tryz.prog 77 #[.string s] w fun e w' => e = .returned (.bool (nameB s)) ∧ w' = w := by
  go_enter Tryz.func77, Tryz.ntmps77
  go_wp2_with fail
  refine (word_any s _ hs).mono ?_
  rintro e w1 ⟨rfl, rfl⟩
  go_wp2_with fail
  go_ret
  exact ⟨rfl, rfl⟩
theorem impl_nameOK (s : ByteArray) (w : World) (hs : s.size ≤ maxLen) :
    Calls Tryz.prog 112 #[.string s] w fun e w' => e = .returned (.bool (nameB s)) ∧ Below w.heap.size w w' := by
  refine (nameOK_any s w hs).mono ?_
  rintro e w1 ⟨rfl, hw⟩
  refine ⟨rfl, ?_⟩
  rcases hw with rfl | ⟨pos, rfl⟩
  · exact Below.refl _ _
  · exact (Below.refl _ _).alloc (Nat.le_refl _) _

def inB (n a b : Int) : Bool := decide (a ≤ n ∧ n ≤ b)
set_option maxHeartbeats 400000 in
theorem spec_in (n a b : Int) (w : World) : Calls Tryz.prog 75 #[.int .i64 n, .int .i64 a, .int .i64 b] w fun e w' => e = .returned (.bool (inB n a b)) ∧ w' = w := by
  go_enter Tryz.func75, Tryz.ntmps75
  go_wp2
  all_goals (go_ret; exact ⟨ret_bool (by unfold inB; rw [Bool.eq_iff_iff]; simp; omega), rfl⟩)
end Go.Proofs.YtnkaoeijcdchiaaGreatDoor.G
namespace Go.Proofs.YtnkaoeijcdchiaaGreatDoor.G
set_option linter.unusedVariables false

def hasK (ns : List ByteArray) (s : ByteArray) : Bool := ns.any fun t => t.toList == s.toList
def keyB (keys : List ByteArray) (i : Nat) : Bool := match keys[i]? with | some s => nameB s && !hasK (keys.take i) s | none => false
def keysB (keys : List ByteArray) : Bool := (List.range keys.length).all (keyB keys)
def intO (v : Int) : Bool := decide (-2147483648 ≤ v ∧ v ≤ 2147483647)
def plainB (h : Oh) (sub : Ous) : Bool := decide (h.keys.length = 0) && decide (sub.len = 0)
def noT (h : Oh) : Bool := h.t.toList.isEmpty
/-- One value but for its items. -/
def headB (h : Oh) (sub : Ous) : Bool :=
  if h.k = 0 then plainB h sub && (h.n == 0) && noT h
  else if h.k = 1 then plainB h sub && intO h.n && noT h
  else if h.k = 2 then plainB h sub && (h.n == 0) && nameB h.t
  else if h.k = 3 then (h.n == 0) && noT h && decide (h.keys.length = 0)
  else if h.k = 4 then (h.n == 0) && noT h && decide (h.keys.length = sub.len) && keysB h.keys
  else false
/-- All values of a list, each in fewer than d others. -/
def okO : Nat → Ous → Bool
  | _, .nil => true
  | d, .cons h sub rest => decide (0 < d) && headB h sub && okO (d - 1) sub && okO d rest
def oneO (d : Nat) (h : Oh) (sub : Ous) : Bool := decide (0 < d) && headB h sub && okO (d - 1) sub
def outB (d : Nat) (h : Oh) (sub : Ous) : Bool := oneO d h sub && decide (1 + sub.size ≤ 4000)
theorem okO_cons (d : Nat) (h : Oh) (sub rest : Ous) : okO d (.cons h sub rest) = (oneO d h sub && okO d rest) := rfl
theorem keyB_eq {keys : List ByteArray} {i : Nat} (h : i < keys.length) : keyB keys i = (nameB keys[i] && !hasK (keys.take i) keys[i]) := by simp [keyB, h]
theorem keysB_true {keys : List ByteArray} (h : ∀ i, i < keys.length → keyB keys i = true) : keysB keys = true := by
  unfold keysB; rw [List.all_eq_true]; intro i hi; exact h i (List.mem_range.1 hi)
theorem keysB_false {keys : List ByteArray} {i : Nat} (hi : i < keys.length) (h : keyB keys i = false) : keysB keys = false := by
  unfold keysB; rw [List.all_eq_false]; exact ⟨i, List.mem_range.2 hi, by simp [h]⟩
theorem keysB_at {keys : List ByteArray} (h : keysB keys = true) {i : Nat} (hi : i < keys.length) : keyB keys i = true := by
  unfold keysB at h; rw [List.all_eq_true] at h; exact h i (List.mem_range.2 hi)
theorem hasK_take {ns : List ByteArray} {s : ByteArray} {k : Nat} (h : k < ns.length) : hasK (ns.take (k + 1)) s = (hasK (ns.take k) s || (ns[k].toList == s.toList)) := by
  unfold hasK; rw [List.take_succ_eq_append_getElem h, List.any_append]; simp
theorem hasK_of {ns : List ByteArray} {s : ByteArray} {k : Nat} (h : k < ns.length) (he : (ns[k].toList == s.toList) = true) : hasK ns s = true := by
  unfold hasK; rw [List.any_eq_true]; exact ⟨ns[k], List.getElem_mem h, he⟩
/-- No deep value: 0. -/
theorem outB_zero (h : Oh) (sub : Ous) : outB 0 h sub = false := rfl
theorem outB_head {d : Nat} {h : Oh} {sub : Ous} (hh : headB h sub = false) : outB d h sub = false := by simp [outB, oneO, hh]
theorem plain_nil {h : Oh} {sub : Ous} (hp : plainB h sub = true) : sub = .nil := by
  simp only [plainB, Bool.and_eq_true, decide_eq_true_eq] at hp
  exact Ous.nil_of hp.2
/-- A value without items. -/
theorem outB_leaf {d : Nat} {h : Oh} {sub : Ous} (hd : 0 < d) (hk : h.k = 0 ∨ h.k = 1 ∨ h.k = 2) : outB d h sub = headB h sub := by
  cases hh : headB h sub
  · exact outB_head hh
  · have hs : sub = .nil := by
      unfold headB at hh
      rcases hk with e | e | e <;> simp only [e] at hh <;> simp at hh <;> exact plain_nil hh.1.1
    subst hs
    simp [outB, oneO, hh, hd, okO, Ous.size]
theorem outB_big {d : Nat} {h : Oh} {sub : Ous} (hs : 4000 < 1 + sub.size) : outB d h sub = false := by
  simp only [outB]; rw [decide_eq_false (by omega)]; simp
theorem outB_sub {d : Nat} {h : Oh} {sub : Ous} (hs : okO (d - 1) sub = false) : outB d h sub = false := by simp [outB, oneO, hs]
theorem outB_yes {d : Nat} {h : Oh} {sub : Ous} (hd : 0 < d) (hh : headB h sub = true) (ho : okO (d - 1) sub = true) (hs : 1 + sub.size ≤ 4000) : outB d h sub = true := by
  simp [outB, oneO, hd, hh, ho, hs]
theorem outB_all {d : Nat} {h : Oh} {sub : Ous} (ho : outB d h sub = true) : 0 < d ∧ headB h sub = true ∧ okO (d - 1) sub = true ∧ 1 + sub.size ≤ 4000 := by
  simp only [outB, oneO, Bool.and_eq_true, decide_eq_true_eq] at ho
  exact ⟨ho.1.1.1, ho.1.1.2, ho.1.2, ho.2⟩
/-- The rule of lists and objects ahead of their items. -/
def groupB (h : Oh) (sub : Ous) : Bool := (h.k == 3 || h.k == 4) && (h.n == 0) && noT h && (!(h.k == 3) || decide (h.keys.length = 0)) && (!(h.k == 4) || decide (h.keys.length = sub.len))
theorem head_group {h : Oh} {sub : Ous} (hk : h.k ≠ 0 ∧ h.k ≠ 1 ∧ h.k ≠ 2) : headB h sub = (groupB h sub && (!(h.k == 4) || keysB h.keys)) := by
  unfold headB groupB
  rw [if_neg hk.1, if_neg hk.2.1, if_neg hk.2.2]
  by_cases h3 : h.k = 3
  · simp [h3]
  · rw [if_neg h3]
    by_cases h4 : h.k = 4
    · simp [h4]
    · rw [if_neg h4]; simp [h3, h4]
end Go.Proofs.YtnkaoeijcdchiaaGreatDoor.G
namespace Go.Proofs.YtnkaoeijcdchiaaGreatDoor
open Go.ChangeShapes Go.WideShapes Go.ChangeAt Go.RowKit
set_option linter.unusedVariables false

def intB (n : Int) : Bool := decide (-2147483648 ≤ n ∧ n ≤ 2147483647)
set_option maxHeartbeats 400000 in
theorem spec_isInt (n : Int) (w : World) : Calls Tryz.prog 104 #[.int .i64 n] w fun e w' => e = .returned (.bool (intB n)) ∧ w' = w := by
  go_enter Tryz.func104, Tryz.ntmps104
  go_wp2
  all_goals (go_ret; exact ⟨ret_bool (by unfold intB; rw [Bool.eq_iff_iff]; simp; omega), rfl⟩)
set_option maxHeartbeats 400000 in
theorem impl_isInt (n : Int) (w : World) : Calls Tryz.prog 117 #[.int .i64 n] w fun e w' => e = .returned (.bool (intB n)) ∧ w' = w := by
  go_enter Tryz.func117, Tryz.ntmps117
  go_wp2
  all_goals (go_ret; exact ⟨ret_bool (by unfold intB; rw [Bool.eq_iff_iff]; simp; omega), rfl⟩)
theorem spec_nameOK (s : ByteArray) (w : World) (hs : s.size ≤ maxLen) :
    Calls Tryz.prog 77 #[.string s] w fun e w' => e = .returned (.bool (nameB s)) ∧ w' = w := by
  go_enter Tryz.func77, Tryz.ntmps77
  go_wp2_with fail
  refine (word_any s _ hs).mono ?_
  rintro e w1 ⟨rfl, rfl⟩
  go_wp2_with fail
  go_ret
  exact ⟨rfl, rfl⟩
theorem impl_nameOK (s : ByteArray) (w : World) (hs : s.size ≤ maxLen) :
    Calls Tryz.prog 112 #[.string s] w fun e w' => e = .returned (.bool (nameB s)) ∧ Below w.heap.size w w' := by
  refine (nameOK_any s w hs).mono ?_
  rintro e w1 ⟨rfl, hw⟩
  refine ⟨rfl, ?_⟩
  rcases hw with rfl | ⟨pos, rfl⟩
  · exact Below.refl _ _
  · exact (Below.refl _ _).alloc (Nat.le_refl _) _

theorem bcell {W w1 : World} (hb : Below W.heap.size W w1) : (∀ b o, b < W.heap.size → w1.cell? ⟨b, o, none⟩ = W.cell? ⟨b, o, none⟩) ∧ (∀ b o, b < W.heap.size → w1.frozen? ⟨b, o, none⟩ = W.frozen? ⟨b, o, none⟩) :=
  ⟨fun b o h => hb.cell (p := ⟨b, o, none⟩) h, fun b o h => hb.frozen (p := ⟨b, o, none⟩) h⟩

theorem ret_int {k : IntKind} {a b : Int} (h : a = b) : Ending.returned (.int k a) = .returned (.int k b) := by rw [h]
end Go.Proofs.YtnkaoeijcdchiaaGreatDoor
