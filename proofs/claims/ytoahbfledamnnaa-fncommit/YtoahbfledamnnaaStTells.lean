/- What a store tells of a key, and whether it changed (methods of stores). -/
import Derived.Test.YtoahbfledamnnaaStUpMath
import Derived.Laws.EntriesVeiled
import Derived.WalkSmall
namespace Go.Proofs.Ytoahbfledamnnaa.G
open Go.ChangeShapes Go.WideShapes Go.ChangeAt Go.RowKit
set_option linter.unusedVariables false

theorem ret_i {a b : Int} (h : a = b) : Ending.returned (.int .i64 a) = .returned (.int .i64 b) := by rw [h]
set_option maxHeartbeats 1000000 in
theorem impl_hourFault (a : Option Addr) (c : Nat) (l : Chs) (now ts : Int) (w : World) (hr : ChRow 0 w.heap.size w a l) (hbd : ChsBd 1048576 l) :
    Calls Try.prog 39 #[.agg #[.slice a l.length c, .int .i64 now], .int .i64 ts] w fun e w' => e = .returned (.int .i64 (hourN l now ts)) ∧ Below w.heap.size w w' := by
  have B0 : Hid (Below w.heap.size w (w.alloc (.cells #[.slice a l.length c, .int .i64 now] 25))) := (Below.refl _ _).alloc (Nat.le_refl _) _
  have HR : Hid (ChRow 0 _ _ a l) := ChRow.up hr B0.out
  have HE : Hid _ := hbd
  clear hr hbd
  go_enter Try.func39, Try.ntmps39
  go_wp2_with fail
  refine (impl_storeOK a c l now _ HR.out HE.out).mono ?_
  rintro e w1 ⟨rfl, hb1⟩
  have c1 := fun o => hb1.cell (p := ⟨w.heap.size, o, none⟩) (by simp)
  have Q : Hid (Below w.heap.size w w1) := below_one hb1
  clear hb1
  cases hs : storeB l now
  · have HN : Hid ((1 : Int) = hourN l now ts) := by simp [Hid, hourN, hs]
    clear hs
    go_wp2_with fail
    go_ret
    exact ⟨ret_i HN.out, Q.out⟩
  · cases ht : inS ts 0 now
    · have HN : Hid ((4 : Int) = hourN l now ts) := by simp [Hid, hourN, hs, ht]
      have hx := inB_not.1 ht
      clear hs ht
      by_cases h1 : ts < 0
      · go_wp2_with fail
        go_ret
        exact ⟨ret_i HN.out, Q.out⟩
      · have h2 : now < ts := by omega
        go_wp2_with fail
        go_ret
        exact ⟨ret_i HN.out, Q.out⟩
    · have HN : Hid ((0 : Int) = hourN l now ts) := by simp [Hid, hourN, hs, ht]
      obtain ⟨h1, h2⟩ := (inS_iff _ _ _).1 ht
      have h1' : ¬ ts < 0 := by omega
      have h2' : ¬ now < ts := by omega
      clear hs ht
      go_wp2_with fail
      go_ret
      exact ⟨ret_i HN.out, Q.out⟩
set_option maxHeartbeats 1000000 in
theorem impl_keyFault (a : Option Addr) (c : Nat) (l : Chs) (now key ts : Int) (w : World) (hr : ChRow 0 w.heap.size w a l) (hbd : ChsBd 1048576 l) :
    Calls Try.prog 33 #[.agg #[.slice a l.length c, .int .i64 now], .int .i64 key, .int .i64 ts] w fun e w' => e = .returned (.int .i64 (askN l now key ts)) ∧ Below w.heap.size w w' := by
  have B0 : Hid (Below w.heap.size w (w.alloc (.cells #[.slice a l.length c, .int .i64 now] 25))) := (Below.refl _ _).alloc (Nat.le_refl _) _
  have HR : Hid (ChRow 0 _ _ a l) := ChRow.up hr B0.out
  have HE : Hid _ := hbd
  clear hr hbd
  go_enter Try.func33, Try.ntmps33
  go_wp2_with fail
  refine (impl_hourFault a c l now ts _ HR.out HE.out).mono ?_
  rintro e w1 ⟨rfl, hb1⟩
  have Q : Hid (Below w.heap.size w w1) := below_one hb1
  clear hb1
  by_cases h0 : hourN l now ts = 0
  · rw [h0]
    cases hk : keyS key
    · have HN : Hid ((4 : Int) = askN l now key ts) := by simp [Hid, askN, h0, hk]
      clear h0
      go_wp2_with (first | (go_at_call 28; refine (impl_isKey _ _).mono ?_; rintro e w' ⟨rfl, rfl⟩; rw [hk]))
      go_ret
      exact ⟨ret_i HN.out, Q.out⟩
    · have HN : Hid ((0 : Int) = askN l now key ts) := by simp [Hid, askN, h0, hk]
      clear h0
      go_wp2_with (first | (go_at_call 28; refine (impl_isKey _ _).mono ?_; rintro e w' ⟨rfl, rfl⟩; rw [hk]))
      go_ret
      exact ⟨ret_i HN.out, Q.out⟩
  · have HN : Hid (hourN l now ts = askN l now key ts) := by simp [Hid, askN, h0]
    have h0' : (hourN l now ts == 0) = false := by simpa using h0
    clear h0
    generalize hourN l now ts = z at *
    go_wp2_with fail
    go_ret
    exact ⟨ret_i HN.out, Q.out⟩
/-- A chain and an hour that lie boxed. -/
def UpAt (w : World) (B : Nat) (a : Option Addr) (len c : Nat) (ts : Int) : Prop := w.cell? ⟨B, 0, none⟩ = some (.slice a len c) ∧ w.cell? ⟨B + 1, 0, none⟩ = some (.int .i64 ts)
set_option maxHeartbeats 1000000 in
theorem up_closure (B : Nat) (a : Option Addr) (c : Nat) (l : List Ve) (ts : Int) (i : Nat) (w : World) (hu : UpAt w B a l.length c ts) (hr : VeRow 0 w.heap.size w a l) (hl : l.length ≤ 1048576) (hi : i < l.length) :
    Calls Try.prog 74 #[.int .i64 i, .pointer (some ⟨B, 0, none⟩), .pointer (some ⟨B + 1, 0, none⟩)] w fun e w' => e = .returned (.bool (decide (ts < l[i].ts))) ∧ ∃ n, w' = w.drewN n := by
  obtain ⟨h1, h2⟩ := hu
  obtain ⟨b, o, ha, _, hbl, d0, d1⟩ := VeRow.cells hr i hi
  subst ha
  have hi' : (i : Int) < l.length := by omega
  clear hr
  go_enter Try.func74, Try.ntmps74
  go_wp2_with fail
  go_quiet (fail)
  go_wp2_with fail
  go_ret
  exact ⟨rfl, _, rfl⟩
theorem UpAt.drewN {w : World} {B : Nat} {a : Option Addr} {len c : Nat} {ts : Int} (h : UpAt w B a len c ts) (q : Nat) : UpAt (w.drewN q) B a len c ts := h
theorem VeRow.drewN {w : World} {a : Option Addr} {l : List Ve} (h : VeRow 0 w.heap.size w a l) (q : Nat) : VeRow 0 (w.drewN q).heap.size (w.drewN q) a l := h
set_option maxHeartbeats 4000000 in
theorem sort_search (B : Nat) (a : Option Addr) (c : Nat) (l : List Ve) (ts : Int) (w : World) (hu : UpAt w B a l.length c ts) (hr : VeRow 0 w.heap.size w a l) (hl : l.length ≤ 1048576) (hB : B + 1 < w.heap.size) (hrise : Rise l) :
    Calls Try.prog 73 #[.int .i64 l.length, .func (.func 74) #[] #[.pointer (some ⟨B, 0, none⟩), .pointer (some ⟨B + 1, 0, none⟩)]] w fun e w' => ∃ n : Nat, e = .returned (.int .i64 n) ∧ UpTo l ts n ∧ ∃ q, w' = w.drewN q := by
  have HU : Hid _ := hu
  have HR : Hid (VeRow 0 w.heap.size w a l) := hr
  have HS : Hid _ := hrise
  clear hu hr hrise
  go_enter Try.func73, Try.ntmps73
  go_wp2_with fail
  go_loopw [5, 6] (fun x y w' => ∃ (i j q : Nat), i ≤ j ∧ j ≤ l.length ∧ x = .int .i64 i ∧ y = .int .i64 j ∧ w' = w.drewN q ∧ Hid (∀ k, k < i → tsAt l k ≤ ts) ∧ Hid (∀ k, j ≤ k → k < l.length → ts < tsAt l k)) (fun x y _ => (intOf y).toNat - (intOf x).toNat)
  case atStart => exact ⟨0, l.length, 0, by omega, by omega, rfl, rfl, rfl, fun k h => by omega, fun k h1 h2 => by omega⟩
  case round =>
    obtain ⟨i, j, q, hij, hjl, rfl, rfl, rfl, HI, HJ⟩ := hrel
    by_cases hlt : i < j
    · obtain ⟨m, hm, hm1, hm2⟩ : ∃ m : Nat, ((i : Int) + j) / 2 = m ∧ i ≤ m ∧ m < j := ⟨(i + j) / 2, by omega, by omega, by omega⟩
      have HM : Hid _ := hm
      clear hm
      go_wp2_with fail
      rw [HM.out]
      refine (up_closure B a c l ts m _ (UpAt.drewN HU.out q) (VeRow.drewN HR.out q) hl (by omega)).mono ?_
      rintro e w1 ⟨rfl, n, rfl⟩
      have et : Hid (tsAt l m = l[m].ts) := tsAt_eq (by omega)
      by_cases hc : ts < l[m].ts
      · have HJ2 : Hid (∀ k, m ≤ k → k < l.length → ts < tsAt l k) := fun k h1 h2 => by
          by_cases e : k = m
          · subst e; rw [et.out]; exact hc
          · have := HS.out m k (by omega) h2; rw [et.out] at this; omega
        rw [show decide (ts < l[m].ts) = true from by simpa using hc]
        go_wp2_with fail
        exact ⟨⟨i, m, q + n, by omega, by omega, rfl, rfl, rfl, HI, HJ2⟩, by simp [intOf]; omega⟩
      · have HI2 : Hid (∀ k, k < m + 1 → tsAt l k ≤ ts) := fun k h1 => by
          by_cases e : k = m
          · subst e; rw [et.out]; omega
          · have := HS.out k m (by omega) (by omega); rw [et.out] at this; omega
        rw [show decide (ts < l[m].ts) = false from by simpa using hc]
        go_wp2_with fail
        exact ⟨⟨m + 1, j, q + n, by omega, by omega, by go_num, rfl, rfl, HI2, HJ⟩, by simp [intOf]; omega⟩
    · obtain rfl : i = j := by omega
      go_wp2_with fail
      go_ret
      exact ⟨i, rfl, ⟨hjl, HI.out, HJ.out⟩, q, rfl⟩
set_option maxHeartbeats 1000000 in
theorem count_upTo (a : Option Addr) (c : Nat) (l : List Ve) (ts : Int) (w : World) (hr : VeRow 0 w.heap.size w a l) (hl : l.length ≤ 1048576) (hrise : Rise l) :
    Calls Try.prog 64 #[.slice a l.length c, .int .i64 ts] w fun e w' => ∃ n : Nat, e = .returned (.int .i64 n) ∧ UpTo l ts n ∧ Below w.heap.size w w' := by
  have HR : Hid (∀ W0, Below w.heap.size w W0 → VeRow 0 W0.heap.size W0 a l) := fun W0 hB => VeRow.up hr hB
  have HS : Hid _ := hrise
  clear hr hrise
  go_enter Try.func64, Try.ntmps64
  go_wp2_with fail
  obtain ⟨V, hV⟩ : ∃ V, V = (w.alloc (.cells #[.slice a l.length c] 58)).alloc (.cells #[.int .i64 ts] 3) := ⟨_, rfl⟩
  rw [← hV]
  have BV : Hid (Below w.heap.size w V) := by rw [hV]; exact ((Below.refl _ _).alloc (Nat.le_refl _) _).alloc (by simp) _
  have zV : V.heap.size = w.heap.size + 2 := by rw [hV]; simp
  have UV : Hid (UpAt V w.heap.size a l.length c ts) := by
    refine ⟨?_, ?_⟩
    · rw [hV]; exact (((Below.refl _ _).alloc (Nat.le_refl _) _).cell (p := ⟨w.heap.size, 0, none⟩) (by simp)).trans (row_cell (heap_alloc_new _ _) 0)
    · rw [hV]; simp
  clear hV
  refine (sort_search w.heap.size a c l ts _ UV.out (HR.out _ BV.out) hl (by omega) HS.out).mono ?_
  rintro e w1 ⟨n, rfl, hn, q, rfl⟩
  have HN : Hid _ := hn
  clear hn
  go_wp2_with fail
  go_ret
  exact ⟨n, rfl, HN.out, below_drewN BV.out _⟩
set_option maxHeartbeats 1000000 in
theorem value_at (a : Option Addr) (c : Nat) (l : List Ve) (ts : Int) (w : World) (hr : VeRow 0 w.heap.size w a l) (hl : l.length ≤ 1048576) (hrise : Rise l) :
    Calls Try.prog 54 #[.slice a l.length c, .int .i64 ts] w fun e w' => e = .returned (.int .i64 (readV l ts)) ∧ Below w.heap.size w w' := by
  have HR : Hid (VeRow 0 w.heap.size w a l) := hr
  have HS : Hid _ := hrise
  clear hr hrise
  go_enter Try.func54, Try.ntmps54
  go_wp2_with fail
  refine (count_upTo a c l ts _ HR.out hl HS.out).mono ?_
  rintro e w1 ⟨n, rfl, hn, hb1⟩
  have HV : Hid _ := readV_upto hn
  have h1 := hn.1
  clear hn
  have Q : Hid _ := hb1
  by_cases h0 : n = 0
  · have HV2 : Hid (0 = readV l ts) := by rw [Hid, HV.out, if_pos h0]
    subst h0
    clear HV hb1
    go_wp2_with fail
    go_ret
    exact ⟨ret_i HV2.out, Q.out⟩
  · obtain ⟨m, rfl⟩ : ∃ m, n = m + 1 := ⟨n - 1, by omega⟩
    obtain ⟨b, o, ha, _, hbl, d0, d1⟩ := VeRow.cells (VeRow.keep HR.out (agree hb1 (Nat.le_refl _))) m (by omega)
    have HV2 : Hid (l[m].v = readV l ts) := by rw [Hid, HV.out, if_neg h0, Nat.add_sub_cancel, vAt_eq (by omega)]
    subst ha
    have e1 : ((m + 1 : Nat) : Int) - 1 = m := by omega
    have e2 : (((m + 1 : Nat) : Int) == 0) = false := by simp; omega
    clear HV hb1 h0
    go_wp2_with fail
    go_ret
    exact ⟨ret_i HV2.out, Q.out⟩
set_option maxHeartbeats 1000000 in
theorem changed_since (a : Option Addr) (c : Nat) (l : List Ve) (ts : Int) (w : World) (hr : VeRow 0 w.heap.size w a l) (hl : l.length ≤ 1048576) (hrise : Rise l) :
    Calls Try.prog 75 #[.slice a l.length c, .int .i64 ts] w fun e w' => e = .returned (.bool (chgB l ts)) ∧ Below w.heap.size w w' := by
  have HR : Hid (VeRow 0 w.heap.size w a l) := hr
  have HS : Hid _ := hrise
  clear hr hrise
  go_enter Try.func75, Try.ntmps75
  go_wp2_with fail
  refine (count_upTo a c l ts _ HR.out hl HS.out).mono ?_
  rintro e w1 ⟨n, rfl, hn, hb1⟩
  have HV : Hid _ := chgB_upto hn
  have h1 := hn.1
  clear hn
  go_wp2_with fail
  go_ret
  exact ⟨ret_b (by rw [HV.out]; simp), hb1⟩
end Go.Proofs.Ytoahbfledamnnaa.G
namespace Go.Proofs.Ytoahbfledamnnaa.G
open Go.ChangeShapes Go.WideShapes Go.ChangeAt Go.RowKit
set_option linter.unusedVariables false

set_option maxHeartbeats 2000000 in
theorem tells_at (a : Option Addr) (c : Nat) (l : Chs) (now ts : Int) (k : Nat) (w : World) (hr : ChRow 0 w.heap.size w a l) (hbd : ChsBd 1048576 l) (hk : k < l.length) (hrise : Rise l[k]) :
    Calls Try.prog 32 #[.agg #[.slice a l.length c, .int .i64 now], .int .i64 k, .int .i64 ts] w fun e w' => e = .returned (.int .i64 (readV l[k] ts)) ∧ Below w.heap.size w w' := by
  have B0 : Hid (Below w.heap.size w (w.alloc (.cells #[.slice a l.length c, .int .i64 now] 25))) := (Below.refl _ _).alloc (Nat.le_refl _) _
  obtain ⟨b, o, a3, c3, ha, _, hbl, d0, _, r3⟩ := ChRow.cells (ChRow.up hr B0.out) k hk
  have R3 : Hid (VeRow 0 _ _ a3 l[k]) := r3
  have HX : Hid (l[k].length ≤ 1048576) := hbd.2 l[k] (List.getElem_mem hk)
  have HS : Hid _ := hrise
  have hk' : (k : Int) < l.length := by omega
  subst ha
  clear r3 hr hbd hrise
  go_enter Try.func32, Try.ntmps32
  go_wp2_with fail
  refine (value_at a3 c3 l[k] ts _ R3.out HX.out HS.out).mono ?_
  rintro e w1 ⟨rfl, b1⟩
  have Q : Hid _ := below_one b1
  clear b1
  go_wp2_with fail
  go_ret
  exact ⟨rfl, Q.out⟩
set_option maxHeartbeats 2000000 in
theorem changed_at (a : Option Addr) (c : Nat) (l : Chs) (now ts : Int) (k : Nat) (w : World) (hr : ChRow 0 w.heap.size w a l) (hbd : ChsBd 1048576 l) (hk : k < l.length) (hrise : Rise l[k]) :
    Calls Try.prog 69 #[.agg #[.slice a l.length c, .int .i64 now], .int .i64 k, .int .i64 ts] w fun e w' => e = .returned (.bool (chgB l[k] ts)) ∧ Below w.heap.size w w' := by
  have B0 : Hid (Below w.heap.size w (w.alloc (.cells #[.slice a l.length c, .int .i64 now] 25))) := (Below.refl _ _).alloc (Nat.le_refl _) _
  obtain ⟨b, o, a3, c3, ha, _, hbl, d0, _, r3⟩ := ChRow.cells (ChRow.up hr B0.out) k hk
  have R3 : Hid (VeRow 0 _ _ a3 l[k]) := r3
  have HX : Hid (l[k].length ≤ 1048576) := hbd.2 l[k] (List.getElem_mem hk)
  have HS : Hid _ := hrise
  have hk' : (k : Int) < l.length := by omega
  subst ha
  clear r3 hr hbd hrise
  go_enter Try.func69, Try.ntmps69
  go_wp2_with fail
  refine (changed_since a3 c3 l[k] ts _ R3.out HX.out HS.out).mono ?_
  rintro e w1 ⟨rfl, b1⟩
  have Q : Hid _ := below_one b1
  clear b1
  go_wp2_with fail
  go_ret
  exact ⟨rfl, Q.out⟩
end Go.Proofs.Ytoahbfledamnnaa.G
