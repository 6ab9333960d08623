/- What the law counts of them: it ends, and what is not too great is bounded in all its parts. -/
import Derived.Test.YtjkkphfdcoejlaaGreatSchRows
namespace Go.Proofs.YtjkkphfdcoejlaaGreat.G
open Go.ChangeShapes Go.WideShapes Go.ChangeAt Go.RowKit
set_option linter.unusedVariables false

set_option maxHeartbeats 1000000 in
theorem sz_Ag (x : Ag) (n : Int) (w : World) (hb : AgBd maxLen x) (h0 : 0 ≤ n) (h1 : n ≤ 1048576) :
    Calls Tryz.prog 104 #[.agg #[.string x.nm, .bool x.need], .int .i64 n] w fun e w' => ∃ m, e = .returned (.int .i64 m) ∧ Sz n m (AgBd 1048576 x) ∧ Below w.heap.size w w' := by
  have b0 := hb
  unfold AgBd at b0
  have b0' := b0
  unfold maxLen at b0'
  have B0 : Below w.heap.size w (w.alloc (.cells #[.string x.nm, .bool x.need] 171)) := (Below.refl _ _).alloc (Nat.le_refl _) _
  have HB : Hid _ := B0
  clear B0
  by_cases g0 : n - x.nm.size < 0
  · go_enter Tryz.func104, Tryz.ntmps104
    go_wp2_with fail
    go_ret
    exact ⟨-1, rfl, Sz.neg h0, HB.out⟩
  go_enter Tryz.func104, Tryz.ntmps104
  go_wp2_with fail
  go_ret
  exact ⟨_, rfl, ⟨by omega, by omega, fun _ => by unfold AgBd; omega⟩, HB.out⟩
set_option maxHeartbeats 1000000 in
theorem sz_Ags (a : Option Addr) (c : Nat) (l : List Ag) (n : Int) (w : World) (hr : AgRow 0 w.heap.size w a l) (hbd : AgsBd maxLen l) (h0 : 0 ≤ n) (h1 : n ≤ 1048576) :
    Calls Tryz.prog 93 #[.slice a l.length c, .int .i64 n] w fun e w' => ∃ m, e = .returned (.int .i64 m) ∧ Sz n m (AgsBd 1048576 l) ∧ Below w.heap.size w w' := by
  obtain ⟨hl, ht⟩ := hbd
  unfold maxLen at hl
  by_cases hz : n - l.length < 0
  · go_enter Tryz.func93, Tryz.ntmps93
    go_wp2_with fail
    go_ret
    exact ⟨-1, rfl, Sz.neg h0, Below.refl _ _⟩
  · have HR : Hid (AgRow 0 w.heap.size w a l) := hr
    have HT : Hid (∀ x ∈ l, AgBd maxLen x) := ht
    clear hr ht
    go_enter Tryz.func93, Tryz.ntmps93
    go_wp2_with fail
    go_loopw [1, 5] (fun r i w' => ∃ (k : Nat) (m : Int), k ≤ l.length ∧ i = .int .i64 k ∧ r = .int .i64 m ∧ 0 ≤ m ∧ m ≤ n ∧ Below w.heap.size w w' ∧ Hid (∀ x ∈ l.take k, AgBd 1048576 x)) (fun _ i _ => l.length - (intOf i).toNat)
    case atStart => exact ⟨0, _, by omega, rfl, rfl, by omega, by omega, Below.refl _ _, by simp [Hid]⟩
    case round =>
      rename_i wr
      obtain ⟨k, m, hk, rfl, rfl, hm0, hm1, hb, HK⟩ := hrel
      by_cases hlt : k < l.length
      · obtain ⟨b, o, ha, _, hbl, d0, d1⟩ := AgRow.cells (AgRow.keep HR.out (agree hb (Nat.le_refl _))) k hlt
        subst ha
        have HX : Hid (AgBd maxLen l[k]) := HT.out l[k] (List.getElem_mem hlt)
        go_wp2_with fail
        refine (sz_Ag l[k] m _ HX.out hm0 (by omega)).mono ?_
        rintro e w1 ⟨m1, rfl, hm, hb1⟩
        have HM : Hid (Sz m m1 (AgBd 1048576 l[k])) := hm
        clear hm d0 d1
        by_cases hneg : m1 < 0
        · go_wp2_with fail
          go_ret
          exact ⟨-1, rfl, Sz.neg h0, hb.trans (hb1.mono hb.size)⟩
        · go_wp2_with fail
          go_roundw
          case rel => exact ⟨k + 1, m1, by omega, by go_num, rfl, by omega, by have := HM.out.1; omega, hb.trans (hb1.mono hb.size), all_take hlt HK.out (HM.out.2.2 (by omega))⟩
          case measure => simp [intOf]; omega
      · go_wp2_with fail
        go_ret
        rw [List.take_of_length_le (by omega)] at HK
        exact ⟨m, rfl, ⟨hm1, by omega, fun _ => ⟨by omega, HK.out⟩⟩, hb⟩
set_option maxHeartbeats 1000000 in
theorem sz_Fd (x : Fd) (a3 : Option Addr) (c3 : Nat) (n : Int) (w : World) (r3 : AgRow 0 w.heap.size w a3 x.args) (hb : FdBd maxLen x) (h0 : 0 ≤ n) (h1 : n ≤ 1048576) :
    Calls Tryz.prog 73 #[.agg #[.string x.nm, .slice a3 x.args.length c3, .string x.ty, .bool x.ls, .bool x.bg], .int .i64 n] w fun e w' => ∃ m, e = .returned (.int .i64 m) ∧ Sz n m (FdBd 1048576 x) ∧ Below w.heap.size w w' := by
  obtain ⟨b0, b1, b2⟩ := hb
  have b0' := b0
  unfold maxLen at b0'
  have b2' := b2
  unfold maxLen at b2'
  have HS : Hid (AgsBd maxLen x.args) := b1
  have B0 : Below w.heap.size w (w.alloc (.cells #[.string x.nm, .slice a3 x.args.length c3, .string x.ty, .bool x.ls, .bool x.bg] 131)) := (Below.refl _ _).alloc (Nat.le_refl _) _
  have R3 : Hid (AgRow 0 _ _ a3 x.args) := AgRow.up r3 B0
  have HB : Hid _ := B0
  clear B0 r3 b1
  by_cases g0 : n - x.nm.size < 0
  · go_enter Tryz.func73, Tryz.ntmps73
    go_wp2_with fail
    go_ret
    exact ⟨-1, rfl, Sz.neg h0, HB.out⟩
  go_enter Tryz.func73, Tryz.ntmps73
  go_wp2_with fail
  refine (sz_Ags a3 c3 x.args _ _ R3.out HS.out (by omega) (by omega)).mono ?_
  rintro e w3 ⟨m3, rfl, hm, hb3⟩
  have M3 : Hid _ := hm
  clear hm
  have q3 : Below w.heap.size w w3 := HB.out.trans (hb3.mono (by simp))
  have u3 := M3.out.1
  have k3 := fun o => hb3.cell (p := ⟨w.heap.size, o, none⟩) (by simp)
  by_cases n3 : m3 < 0
  · go_wp2_with fail
    go_ret
    exact ⟨-1, rfl, Sz.neg h0, q3⟩
  by_cases g1 : m3 - x.ty.size < 0
  · go_wp2_with fail
    go_ret
    exact ⟨-1, rfl, Sz.neg h0, q3⟩
  go_wp2_with fail
  go_ret
  have v3 := M3.out.2.2 (by omega)
  exact ⟨_, rfl, ⟨by omega, by omega, fun _ => ⟨by omega, v3, by omega⟩⟩, q3⟩
set_option maxHeartbeats 1000000 in
theorem sz_Fds (a : Option Addr) (c : Nat) (l : List Fd) (n : Int) (w : World) (hr : FdRow 0 w.heap.size w a l) (hbd : FdsBd maxLen l) (h0 : 0 ≤ n) (h1 : n ≤ 1048576) :
    Calls Tryz.prog 46 #[.slice a l.length c, .int .i64 n] w fun e w' => ∃ m, e = .returned (.int .i64 m) ∧ Sz n m (FdsBd 1048576 l) ∧ Below w.heap.size w w' := by
  obtain ⟨hl, ht⟩ := hbd
  unfold maxLen at hl
  by_cases hz : n - l.length < 0
  · go_enter Tryz.func46, Tryz.ntmps46
    go_wp2_with fail
    go_ret
    exact ⟨-1, rfl, Sz.neg h0, Below.refl _ _⟩
  · have HR : Hid (FdRow 0 w.heap.size w a l) := hr
    have HT : Hid (∀ x ∈ l, FdBd maxLen x) := ht
    clear hr ht
    go_enter Tryz.func46, Tryz.ntmps46
    go_wp2_with fail
    go_loopw [1, 5] (fun r i w' => ∃ (k : Nat) (m : Int), k ≤ l.length ∧ i = .int .i64 k ∧ r = .int .i64 m ∧ 0 ≤ m ∧ m ≤ n ∧ Below w.heap.size w w' ∧ Hid (∀ x ∈ l.take k, FdBd 1048576 x)) (fun _ i _ => l.length - (intOf i).toNat)
    case atStart => exact ⟨0, _, by omega, rfl, rfl, by omega, by omega, Below.refl _ _, by simp [Hid]⟩
    case round =>
      rename_i wr
      obtain ⟨k, m, hk, rfl, rfl, hm0, hm1, hb, HK⟩ := hrel
      by_cases hlt : k < l.length
      · obtain ⟨b, o, a3, c3, ha, _, hbl, d0, d1, d2, d3, d4, r3⟩ := FdRow.cells (FdRow.keep HR.out (agree hb (Nat.le_refl _))) k hlt
        subst ha
        have HX : Hid (FdBd maxLen l[k]) := HT.out l[k] (List.getElem_mem hlt)
        have R3 : Hid (AgRow 0 wr.heap.size wr a3 l[k].args) := AgRow.wide r3 (Nat.le_refl _) hb.size
        clear r3
        go_wp2_with fail
        refine (sz_Fd l[k] a3 c3 m _ R3.out HX.out hm0 (by omega)).mono ?_
        rintro e w1 ⟨m1, rfl, hm, hb1⟩
        have HM : Hid (Sz m m1 (FdBd 1048576 l[k])) := hm
        clear hm d0 d1 d2 d3 d4
        by_cases hneg : m1 < 0
        · go_wp2_with fail
          go_ret
          exact ⟨-1, rfl, Sz.neg h0, hb.trans (hb1.mono hb.size)⟩
        · go_wp2_with fail
          go_roundw
          case rel => exact ⟨k + 1, m1, by omega, by go_num, rfl, by omega, by have := HM.out.1; omega, hb.trans (hb1.mono hb.size), all_take hlt HK.out (HM.out.2.2 (by omega))⟩
          case measure => simp [intOf]; omega
      · go_wp2_with fail
        go_ret
        rw [List.take_of_length_le (by omega)] at HK
        exact ⟨m, rfl, ⟨hm1, by omega, fun _ => ⟨by omega, HK.out⟩⟩, hb⟩
set_option maxHeartbeats 1000000 in
theorem sz_Td (x : Td) (a3 : Option Addr) (c3 : Nat) (n : Int) (w : World) (r3 : FdRow 0 w.heap.size w a3 x.fs) (hb : TdBd maxLen x) (h0 : 0 ≤ n) (h1 : n ≤ 1048576) :
    Calls Tryz.prog 24 #[.agg #[.string x.nm, .slice a3 x.fs.length c3], .int .i64 n] w fun e w' => ∃ m, e = .returned (.int .i64 m) ∧ Sz n m (TdBd 1048576 x) ∧ Below w.heap.size w w' := by
  obtain ⟨b0, b1⟩ := hb
  have b0' := b0
  unfold maxLen at b0'
  have HS : Hid (FdsBd maxLen x.fs) := b1
  have B0 : Below w.heap.size w (w.alloc (.cells #[.string x.nm, .slice a3 x.fs.length c3] 55)) := (Below.refl _ _).alloc (Nat.le_refl _) _
  have R3 : Hid (FdRow 0 _ _ a3 x.fs) := FdRow.up r3 B0
  have HB : Hid _ := B0
  clear B0 r3 b1
  by_cases g0 : n - x.nm.size < 0
  · go_enter Tryz.func24, Tryz.ntmps24
    go_wp2_with fail
    go_ret
    exact ⟨-1, rfl, Sz.neg h0, HB.out⟩
  go_enter Tryz.func24, Tryz.ntmps24
  go_wp2_with fail
  refine (sz_Fds a3 c3 x.fs _ _ R3.out HS.out (by omega) (by omega)).mono ?_
  rintro e w3 ⟨m3, rfl, hm, hb3⟩
  have M3 : Hid _ := hm
  clear hm
  have q3 : Below w.heap.size w w3 := HB.out.trans (hb3.mono (by simp))
  have u3 := M3.out.1
  have k3 := fun o => hb3.cell (p := ⟨w.heap.size, o, none⟩) (by simp)
  by_cases n3 : m3 < 0
  · go_wp2_with fail
    go_ret
    exact ⟨-1, rfl, Sz.neg h0, q3⟩
  go_wp2_with fail
  go_ret
  have v3 := M3.out.2.2 (by omega)
  exact ⟨_, rfl, ⟨by omega, by omega, fun _ => ⟨by omega, v3⟩⟩, q3⟩
set_option maxHeartbeats 1000000 in
theorem sz_Tds (a : Option Addr) (c : Nat) (l : List Td) (n : Int) (w : World) (hr : TdRow 0 w.heap.size w a l) (hbd : TdsBd maxLen l) (h0 : 0 ≤ n) (h1 : n ≤ 1048576) :
    Calls Tryz.prog 12 #[.slice a l.length c, .int .i64 n] w fun e w' => ∃ m, e = .returned (.int .i64 m) ∧ Sz n m (TdsBd 1048576 l) ∧ Below w.heap.size w w' := by
  obtain ⟨hl, ht⟩ := hbd
  unfold maxLen at hl
  by_cases hz : n - l.length < 0
  · go_enter Tryz.func12, Tryz.ntmps12
    go_wp2_with fail
    go_ret
    exact ⟨-1, rfl, Sz.neg h0, Below.refl _ _⟩
  · have HR : Hid (TdRow 0 w.heap.size w a l) := hr
    have HT : Hid (∀ x ∈ l, TdBd maxLen x) := ht
    clear hr ht
    go_enter Tryz.func12, Tryz.ntmps12
    go_wp2_with fail
    go_loopw [1, 5] (fun r i w' => ∃ (k : Nat) (m : Int), k ≤ l.length ∧ i = .int .i64 k ∧ r = .int .i64 m ∧ 0 ≤ m ∧ m ≤ n ∧ Below w.heap.size w w' ∧ Hid (∀ x ∈ l.take k, TdBd 1048576 x)) (fun _ i _ => l.length - (intOf i).toNat)
    case atStart => exact ⟨0, _, by omega, rfl, rfl, by omega, by omega, Below.refl _ _, by simp [Hid]⟩
    case round =>
      rename_i wr
      obtain ⟨k, m, hk, rfl, rfl, hm0, hm1, hb, HK⟩ := hrel
      by_cases hlt : k < l.length
      · obtain ⟨b, o, a3, c3, ha, _, hbl, d0, d1, r3⟩ := TdRow.cells (TdRow.keep HR.out (agree hb (Nat.le_refl _))) k hlt
        subst ha
        have HX : Hid (TdBd maxLen l[k]) := HT.out l[k] (List.getElem_mem hlt)
        have R3 : Hid (FdRow 0 wr.heap.size wr a3 l[k].fs) := FdRow.wide r3 (Nat.le_refl _) hb.size
        clear r3
        go_wp2_with fail
        refine (sz_Td l[k] a3 c3 m _ R3.out HX.out hm0 (by omega)).mono ?_
        rintro e w1 ⟨m1, rfl, hm, hb1⟩
        have HM : Hid (Sz m m1 (TdBd 1048576 l[k])) := hm
        clear hm d0 d1
        by_cases hneg : m1 < 0
        · go_wp2_with fail
          go_ret
          exact ⟨-1, rfl, Sz.neg h0, hb.trans (hb1.mono hb.size)⟩
        · go_wp2_with fail
          go_roundw
          case rel => exact ⟨k + 1, m1, by omega, by go_num, rfl, by omega, by have := HM.out.1; omega, hb.trans (hb1.mono hb.size), all_take hlt HK.out (HM.out.2.2 (by omega))⟩
          case measure => simp [intOf]; omega
      · go_wp2_with fail
        go_ret
        rw [List.take_of_length_le (by omega)] at HK
        exact ⟨m, rfl, ⟨hm1, by omega, fun _ => ⟨by omega, HK.out⟩⟩, hb⟩
set_option maxHeartbeats 1000000 in
theorem sz_top (a : Option Addr) (c : Nat) (l : List Td) (n : Int) (w : World) (hr : TdRow 0 w.heap.size w a l) (hbd : TdsBd maxLen l) (h0 : 0 ≤ n) (h1 : n ≤ 1048576) :
    Calls Tryz.prog 4 #[.agg #[.slice a l.length c], .int .i64 n] w fun e w' => ∃ m, e = .returned (.int .i64 m) ∧ Sz n m (TdsBd 1048576 l) ∧ Below w.heap.size w w' := by
  have B0 : Below w.heap.size w (w.alloc (.cells #[.slice a l.length c] 24)) := (Below.refl _ _).alloc (Nat.le_refl _) _
  have R3 : Hid (TdRow 0 _ _ a l) := TdRow.up hr B0
  have HB : Hid _ := B0
  have HD : Hid _ := hbd
  clear hr B0 hbd
  go_enter Tryz.func4, Tryz.ntmps4
  go_wp2_with fail
  refine (sz_Tds a c l _ _ R3.out HD.out (by omega) (by omega)).mono ?_
  rintro e w3 ⟨m3, rfl, hm, hb3⟩
  have M3 : Hid _ := hm
  clear hm
  have q3 : Below w.heap.size w w3 := HB.out.trans (hb3.mono (by simp))
  by_cases n3 : m3 < 0
  · go_wp2_with fail
    go_ret
    exact ⟨-1, rfl, Sz.neg h0, q3⟩
  go_wp2_with fail
  go_ret
  exact ⟨m3, rfl, M3.out, q3⟩
end Go.Proofs.YtjkkphfdcoejlaaGreat.G
