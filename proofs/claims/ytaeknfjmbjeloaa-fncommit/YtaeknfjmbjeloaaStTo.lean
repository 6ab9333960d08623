/- Stores that a call owns, and the law's own copies of stores. -/
import Derived.Test.YtaeknfjmbjeloaaStUpMath
import Derived.Laws.EntriesVeiled
import Derived.WalkSmall
namespace Go.Proofs.Ytaeknfjmbjeloaa.G
open Go.ChangeShapes Go.WideShapes Go.ChangeAt Go.RowKit
set_option linter.unusedVariables false

theorem ret_i {a b : Int} (h : a = b) : Ending.returned (.int .i64 a) = .returned (.int .i64 b) := by rw [h]
set_option maxHeartbeats 1000000 in
theorem impl_hourFault (a : Option Addr) (c : Nat) (l : Chs) (now ts : Int) (w : World) (hr : ChRow 0 w.heap.size w a l) (hbd : ChsBd 1048576 l) :
    Calls Try.prog 39 #[.agg #[.slice a l.length c, .int .i64 now], .int .i64 ts] w fun e w' => e = .returned (.int .i64 (hourN l now ts)) ∧ Below w.heap.size w w' := by
  have B0 : Hid (Below w.heap.size w (w.alloc (.cells #[.slice a l.length c, .int .i64 now] 25))) := (Below.refl _ _).alloc (Nat.le_refl _) _
  have HR : Hid (ChRow 0 _ _ a l) := ChRow.up hr B0.out
  have HE : Hid _ := hbd
  clear hr hbd
  go_enter Try.func39, Try.ntmps39
  go_wp2_with fail
  refine (impl_storeOK a c l now _ HR.out HE.out).mono ?_
  rintro e w1 ⟨rfl, hb1⟩
  have c1 := fun o => hb1.cell (p := ⟨w.heap.size, o, none⟩) (by simp)
  have Q : Hid (Below w.heap.size w w1) := below_one hb1
  clear hb1
  cases hs : storeB l now
  · have HN : Hid ((1 : Int) = hourN l now ts) := by simp [Hid, hourN, hs]
    clear hs
    go_wp2_with fail
    go_ret
    exact ⟨ret_i HN.out, Q.out⟩
  · cases ht : inS ts 0 now
    · have HN : Hid ((4 : Int) = hourN l now ts) := by simp [Hid, hourN, hs, ht]
      have hx := inB_not.1 ht
      clear hs ht
      by_cases h1 : ts < 0
      · go_wp2_with fail
        go_ret
        exact ⟨ret_i HN.out, Q.out⟩
      · have h2 : now < ts := by omega
        go_wp2_with fail
        go_ret
        exact ⟨ret_i HN.out, Q.out⟩
    · have HN : Hid ((0 : Int) = hourN l now ts) := by simp [Hid, hourN, hs, ht]
      obtain ⟨h1, h2⟩ := (inS_iff _ _ _).1 ht
      have h1' : ¬ ts < 0 := by omega
      have h2' : ¬ now < ts := by omega
      clear hs ht
      go_wp2_with fail
      go_ret
      exact ⟨ret_i HN.out, Q.out⟩
set_option maxHeartbeats 1000000 in
theorem impl_keyFault (a : Option Addr) (c : Nat) (l : Chs) (now key ts : Int) (w : World) (hr : ChRow 0 w.heap.size w a l) (hbd : ChsBd 1048576 l) :
    Calls Try.prog 33 #[.agg #[.slice a l.length c, .int .i64 now], .int .i64 key, .int .i64 ts] w fun e w' => e = .returned (.int .i64 (askN l now key ts)) ∧ Below w.heap.size w w' := by
  have B0 : Hid (Below w.heap.size w (w.alloc (.cells #[.slice a l.length c, .int .i64 now] 25))) := (Below.refl _ _).alloc (Nat.le_refl _) _
  have HR : Hid (ChRow 0 _ _ a l) := ChRow.up hr B0.out
  have HE : Hid _ := hbd
  clear hr hbd
  go_enter Try.func33, Try.ntmps33
  go_wp2_with fail
  refine (impl_hourFault a c l now ts _ HR.out HE.out).mono ?_
  rintro e w1 ⟨rfl, hb1⟩
  have Q : Hid (Below w.heap.size w w1) := below_one hb1
  clear hb1
  by_cases h0 : hourN l now ts = 0
  · rw [h0]
    cases hk : keyS key
    · have HN : Hid ((4 : Int) = askN l now key ts) := by simp [Hid, askN, h0, hk]
      clear h0
      go_wp2_with (first | (go_at_call 28; refine (impl_isKey _ _).mono ?_; rintro e w' ⟨rfl, rfl⟩; rw [hk]))
      go_ret
      exact ⟨ret_i HN.out, Q.out⟩
    · have HN : Hid ((0 : Int) = askN l now key ts) := by simp [Hid, askN, h0, hk]
      clear h0
      go_wp2_with (first | (go_at_call 28; refine (impl_isKey _ _).mono ?_; rintro e w' ⟨rfl, rfl⟩; rw [hk]))
      go_ret
      exact ⟨ret_i HN.out, Q.out⟩
  · have HN : Hid (hourN l now ts = askN l now key ts) := by simp [Hid, askN, h0]
    have h0' : (hourN l now ts == 0) = false := by simpa using h0
    clear h0
    generalize hourN l now ts = z at *
    go_wp2_with fail
    go_ret
    exact ⟨ret_i HN.out, Q.out⟩
/-- A chain and an hour that lie boxed. -/
def UpAt (w : World) (B : Nat) (a : Option Addr) (len c : Nat) (ts : Int) : Prop := w.cell? ⟨B, 0, none⟩ = some (.slice a len c) ∧ w.cell? ⟨B + 1, 0, none⟩ = some (.int .i64 ts)
set_option maxHeartbeats 1000000 in
theorem up_closure (B : Nat) (a : Option Addr) (c : Nat) (l : List Ve) (ts : Int) (i : Nat) (w : World) (hu : UpAt w B a l.length c ts) (hr : VeRow 0 w.heap.size w a l) (hl : l.length ≤ 1048576) (hi : i < l.length) :
    Calls Try.prog 73 #[.int .i64 i, .pointer (some ⟨B, 0, none⟩), .pointer (some ⟨B + 1, 0, none⟩)] w fun e w' => e = .returned (.bool (decide (ts < l[i].ts))) ∧ ∃ n, w' = w.drewN n := by
  obtain ⟨h1, h2⟩ := hu
  obtain ⟨b, o, ha, _, hbl, d0, d1⟩ := VeRow.cells hr i hi
  subst ha
  have hi' : (i : Int) < l.length := by omega
  clear hr
  go_enter Try.func73, Try.ntmps73
  go_wp2_with fail
  go_quiet (fail)
  go_wp2_with fail
  go_ret
  exact ⟨rfl, _, rfl⟩
theorem UpAt.drewN {w : World} {B : Nat} {a : Option Addr} {len c : Nat} {ts : Int} (h : UpAt w B a len c ts) (q : Nat) : UpAt (w.drewN q) B a len c ts := h
theorem VeRow.drewN {w : World} {a : Option Addr} {l : List Ve} (h : VeRow 0 w.heap.size w a l) (q : Nat) : VeRow 0 (w.drewN q).heap.size (w.drewN q) a l := h
set_option maxHeartbeats 4000000 in
theorem sort_search (B : Nat) (a : Option Addr) (c : Nat) (l : List Ve) (ts : Int) (w : World) (hu : UpAt w B a l.length c ts) (hr : VeRow 0 w.heap.size w a l) (hl : l.length ≤ 1048576) (hB : B + 1 < w.heap.size) (hrise : Rise l) :
    Calls Try.prog 72 #[.int .i64 l.length, .func (.func 73) #[] #[.pointer (some ⟨B, 0, none⟩), .pointer (some ⟨B + 1, 0, none⟩)]] w fun e w' => ∃ n : Nat, e = .returned (.int .i64 n) ∧ UpTo l ts n ∧ ∃ q, w' = w.drewN q := by
  have HU : Hid _ := hu
  have HR : Hid (VeRow 0 w.heap.size w a l) := hr
  have HS : Hid _ := hrise
  clear hu hr hrise
  go_enter Try.func72, Try.ntmps72
  go_wp2_with fail
  go_loopw [5, 6] (fun x y w' => ∃ (i j q : Nat), i ≤ j ∧ j ≤ l.length ∧ x = .int .i64 i ∧ y = .int .i64 j ∧ w' = w.drewN q ∧ Hid (∀ k, k < i → tsAt l k ≤ ts) ∧ Hid (∀ k, j ≤ k → k < l.length → ts < tsAt l k)) (fun x y _ => (intOf y).toNat - (intOf x).toNat)
  case atStart => exact ⟨0, l.length, 0, by omega, by omega, rfl, rfl, rfl, fun k h => by omega, fun k h1 h2 => by omega⟩
  case round =>
    obtain ⟨i, j, q, hij, hjl, rfl, rfl, rfl, HI, HJ⟩ := hrel
    by_cases hlt : i < j
    · obtain ⟨m, hm, hm1, hm2⟩ : ∃ m : Nat, ((i : Int) + j) / 2 = m ∧ i ≤ m ∧ m < j := ⟨(i + j) / 2, by omega, by omega, by omega⟩
      have HM : Hid _ := hm
      clear hm
      go_wp2_with fail
      rw [HM.out]
      refine (up_closure B a c l ts m _ (UpAt.drewN HU.out q) (VeRow.drewN HR.out q) hl (by omega)).mono ?_
      rintro e w1 ⟨rfl, n, rfl⟩
      have et : Hid (tsAt l m = l[m].ts) := tsAt_eq (by omega)
      by_cases hc : ts < l[m].ts
      · have HJ2 : Hid (∀ k, m ≤ k → k < l.length → ts < tsAt l k) := fun k h1 h2 => by
          by_cases e : k = m
          · subst e; rw [et.out]; exact hc
          · have := HS.out m k (by omega) h2; rw [et.out] at this; omega
        rw [show decide (ts < l[m].ts) = true from by simpa using hc]
        go_wp2_with fail
        exact ⟨⟨i, m, q + n, by omega, by omega, rfl, rfl, rfl, HI, HJ2⟩, by simp [intOf]; omega⟩
      · have HI2 : Hid (∀ k, k < m + 1 → tsAt l k ≤ ts) := fun k h1 => by
          by_cases e : k = m
          · subst e; rw [et.out]; omega
          · have := HS.out k m (by omega) (by omega); rw [et.out] at this; omega
        rw [show decide (ts < l[m].ts) = false from by simpa using hc]
        go_wp2_with fail
        exact ⟨⟨m + 1, j, q + n, by omega, by omega, by go_num, rfl, rfl, HI2, HJ⟩, by simp [intOf]; omega⟩
    · obtain rfl : i = j := by omega
      go_wp2_with fail
      go_ret
      exact ⟨i, rfl, ⟨hjl, HI.out, HJ.out⟩, q, rfl⟩
set_option maxHeartbeats 1000000 in
theorem count_upTo (a : Option Addr) (c : Nat) (l : List Ve) (ts : Int) (w : World) (hr : VeRow 0 w.heap.size w a l) (hl : l.length ≤ 1048576) (hrise : Rise l) :
    Calls Try.prog 63 #[.slice a l.length c, .int .i64 ts] w fun e w' => ∃ n : Nat, e = .returned (.int .i64 n) ∧ UpTo l ts n ∧ Below w.heap.size w w' := by
  have HR : Hid (∀ W0, Below w.heap.size w W0 → VeRow 0 W0.heap.size W0 a l) := fun W0 hB => VeRow.up hr hB
  have HS : Hid _ := hrise
  clear hr hrise
  go_enter Try.func63, Try.ntmps63
  go_wp2_with fail
  obtain ⟨V, hV⟩ : ∃ V, V = (w.alloc (.cells #[.slice a l.length c] 58)).alloc (.cells #[.int .i64 ts] 3) := ⟨_, rfl⟩
  rw [← hV]
  have BV : Hid (Below w.heap.size w V) := by rw [hV]; exact ((Below.refl _ _).alloc (Nat.le_refl _) _).alloc (by simp) _
  have zV : V.heap.size = w.heap.size + 2 := by rw [hV]; simp
  have UV : Hid (UpAt V w.heap.size a l.length c ts) := by
    refine ⟨?_, ?_⟩
    · rw [hV]; exact (((Below.refl _ _).alloc (Nat.le_refl _) _).cell (p := ⟨w.heap.size, 0, none⟩) (by simp)).trans (row_cell (heap_alloc_new _ _) 0)
    · rw [hV]; simp
  clear hV
  refine (sort_search w.heap.size a c l ts _ UV.out (HR.out _ BV.out) hl (by omega) HS.out).mono ?_
  rintro e w1 ⟨n, rfl, hn, q, rfl⟩
  have HN : Hid _ := hn
  clear hn
  go_wp2_with fail
  go_ret
  exact ⟨n, rfl, HN.out, below_drewN BV.out _⟩
set_option maxHeartbeats 1000000 in
theorem value_at (a : Option Addr) (c : Nat) (l : List Ve) (ts : Int) (w : World) (hr : VeRow 0 w.heap.size w a l) (hl : l.length ≤ 1048576) (hrise : Rise l) :
    Calls Try.prog 54 #[.slice a l.length c, .int .i64 ts] w fun e w' => e = .returned (.int .i64 (readV l ts)) ∧ Below w.heap.size w w' := by
  have HR : Hid (VeRow 0 w.heap.size w a l) := hr
  have HS : Hid _ := hrise
  clear hr hrise
  go_enter Try.func54, Try.ntmps54
  go_wp2_with fail
  refine (count_upTo a c l ts _ HR.out hl HS.out).mono ?_
  rintro e w1 ⟨n, rfl, hn, hb1⟩
  have HV : Hid _ := readV_upto hn
  have h1 := hn.1
  clear hn
  have Q : Hid _ := hb1
  by_cases h0 : n = 0
  · have HV2 : Hid (0 = readV l ts) := by rw [Hid, HV.out, if_pos h0]
    subst h0
    clear HV hb1
    go_wp2_with fail
    go_ret
    exact ⟨ret_i HV2.out, Q.out⟩
  · obtain ⟨m, rfl⟩ : ∃ m, n = m + 1 := ⟨n - 1, by omega⟩
    obtain ⟨b, o, ha, _, hbl, d0, d1⟩ := VeRow.cells (VeRow.keep HR.out (agree hb1 (Nat.le_refl _))) m (by omega)
    have HV2 : Hid (l[m].v = readV l ts) := by rw [Hid, HV.out, if_neg h0, Nat.add_sub_cancel, vAt_eq (by omega)]
    subst ha
    have e1 : ((m + 1 : Nat) : Int) - 1 = m := by omega
    have e2 : (((m + 1 : Nat) : Int) == 0) = false := by simp; omega
    clear HV hb1 h0
    go_wp2_with fail
    go_ret
    exact ⟨ret_i HV2.out, Q.out⟩
set_option maxHeartbeats 1000000 in
theorem changed_since (a : Option Addr) (c : Nat) (l : List Ve) (ts : Int) (w : World) (hr : VeRow 0 w.heap.size w a l) (hl : l.length ≤ 1048576) (hrise : Rise l) :
    Calls Try.prog 74 #[.slice a l.length c, .int .i64 ts] w fun e w' => e = .returned (.bool (chgB l ts)) ∧ Below w.heap.size w w' := by
  have HR : Hid (VeRow 0 w.heap.size w a l) := hr
  have HS : Hid _ := hrise
  clear hr hrise
  go_enter Try.func74, Try.ntmps74
  go_wp2_with fail
  refine (count_upTo a c l ts _ HR.out hl HS.out).mono ?_
  rintro e w1 ⟨n, rfl, hn, hb1⟩
  have HV : Hid _ := chgB_upto hn
  have h1 := hn.1
  clear hn
  go_wp2_with fail
  go_ret
  exact ⟨ret_b (by rw [HV.out]; simp), hb1⟩
end Go.Proofs.Ytaeknfjmbjeloaa.G
namespace Go.Proofs.Ytaeknfjmbjeloaa.G
open Go.ChangeShapes Go.WideShapes Go.ChangeAt Go.RowKit
set_option linter.unusedVariables false

set_option maxHeartbeats 2000000 in
theorem tells_at (a : Option Addr) (c : Nat) (l : Chs) (now ts : Int) (k : Nat) (w : World) (hr : ChRow 0 w.heap.size w a l) (hbd : ChsBd 1048576 l) (hk : k < l.length) (hrise : Rise l[k]) :
    Calls Try.prog 32 #[.agg #[.slice a l.length c, .int .i64 now], .int .i64 k, .int .i64 ts] w fun e w' => e = .returned (.int .i64 (readV l[k] ts)) ∧ Below w.heap.size w w' := by
  have B0 : Hid (Below w.heap.size w (w.alloc (.cells #[.slice a l.length c, .int .i64 now] 25))) := (Below.refl _ _).alloc (Nat.le_refl _) _
  obtain ⟨b, o, a3, c3, ha, _, hbl, d0, _, r3⟩ := ChRow.cells (ChRow.up hr B0.out) k hk
  have R3 : Hid (VeRow 0 _ _ a3 l[k]) := r3
  have HX : Hid (l[k].length ≤ 1048576) := hbd.2 l[k] (List.getElem_mem hk)
  have HS : Hid _ := hrise
  have hk' : (k : Int) < l.length := by omega
  subst ha
  clear r3 hr hbd hrise
  go_enter Try.func32, Try.ntmps32
  go_wp2_with fail
  refine (value_at a3 c3 l[k] ts _ R3.out HX.out HS.out).mono ?_
  rintro e w1 ⟨rfl, b1⟩
  have Q : Hid _ := below_one b1
  clear b1
  go_wp2_with fail
  go_ret
  exact ⟨rfl, Q.out⟩
set_option maxHeartbeats 2000000 in
theorem changed_at (a : Option Addr) (c : Nat) (l : Chs) (now ts : Int) (k : Nat) (w : World) (hr : ChRow 0 w.heap.size w a l) (hbd : ChsBd 1048576 l) (hk : k < l.length) (hrise : Rise l[k]) :
    Calls Try.prog 68 #[.agg #[.slice a l.length c, .int .i64 now], .int .i64 k, .int .i64 ts] w fun e w' => e = .returned (.bool (chgB l[k] ts)) ∧ Below w.heap.size w w' := by
  have B0 : Hid (Below w.heap.size w (w.alloc (.cells #[.slice a l.length c, .int .i64 now] 25))) := (Below.refl _ _).alloc (Nat.le_refl _) _
  obtain ⟨b, o, a3, c3, ha, _, hbl, d0, _, r3⟩ := ChRow.cells (ChRow.up hr B0.out) k hk
  have R3 : Hid (VeRow 0 _ _ a3 l[k]) := r3
  have HX : Hid (l[k].length ≤ 1048576) := hbd.2 l[k] (List.getElem_mem hk)
  have HS : Hid _ := hrise
  have hk' : (k : Int) < l.length := by omega
  subst ha
  clear r3 hr hbd hrise
  go_enter Try.func68, Try.ntmps68
  go_wp2_with fail
  refine (changed_since a3 c3 l[k] ts _ R3.out HX.out HS.out).mono ?_
  rintro e w1 ⟨rfl, b1⟩
  have Q : Hid _ := below_one b1
  clear b1
  go_wp2_with fail
  go_ret
  exact ⟨rfl, Q.out⟩
end Go.Proofs.Ytaeknfjmbjeloaa.G
namespace Go.Proofs.Ytaeknfjmbjeloaa.G
open Go.ChangeShapes Go.WideShapes Go.ChangeAt Go.RowKit
set_option linter.unusedVariables false

set_option maxHeartbeats 8000000 in
set_option maxRecDepth 40000 in
theorem spec_storeOK (a : Option Addr) (c : Nat) (l : Chs) (now : Int) (w : World) (hr : ChRow 0 w.heap.size w a l) (hbd : ChsBd 1048576 l) :
    Calls Try.prog 59 #[.agg #[.slice a l.length c, .int .i64 now]] w fun e w' => e = .returned (.bool (storeB l now)) ∧ Below w.heap.size w w' := by
  have B0 : Hid (Below w.heap.size w (w.alloc (.cells #[.slice a l.length c, .int .i64 now] 25))) := (Below.refl _ _).alloc (Nat.le_refl _) _
  obtain ⟨hl, ht⟩ := hbd
  by_cases h16 : l.length = 16
  case neg =>
    have HN : Hid (false = storeB l now) := (storeB_len h16).symm
    have h16' : ((l.length : Int) != 16) = true := by simp; omega
    go_enter Try.func59, Try.ntmps59
    go_wp2_with fail
    go_ret
    exact ⟨ret_b HN.out, B0.out⟩
  have h16' : ((l.length : Int) != 16) = false := by simp; omega
  have H16 : Hid (l.length = 16) := h16
  cases hn : inS now 0 100000
  · have HN : Hid (false = storeB l now) := (storeB_now (inB_not.1 hn)).symm
    have HI : Hid _ := hn
    clear h16 hn
    go_enter Try.func59, Try.ntmps59
    go_wp2_with (first | (go_at_call 69; refine (spec_inS _ _ _ _ HI.out).mono ?_; rintro e w' ⟨rfl, rfl⟩))
    go_ret
    exact ⟨ret_b HN.out, B0.out⟩
  have HS : Hid (storeB l now = chainsB l now) := storeB_chains h16 ((inS_iff _ _ _).1 hn)
  have HI : Hid _ := hn
  have HR : Hid (ChRow 0 _ _ a l) := ChRow.up hr B0.out
  have HT : Hid (∀ x ∈ l, x.length ≤ 1048576) := ht
  clear h16 hn hr ht
  go_enter Try.func59, Try.ntmps59
  go_wp2_with (first | (go_at_call 69; refine (spec_inS _ _ _ _ HI.out).mono ?_; rintro e w' ⟨rfl, rfl⟩))
  obtain ⟨V, hV⟩ : ∃ V, V = w.alloc (.cells #[.slice a l.length c, .int .i64 now] 25) := ⟨_, rfl⟩
  have zV : V.heap.size = w.heap.size + 1 := by rw [hV]; simp
  have cV : V.heap[w.heap.size]? = some (.cells #[.slice a l.length c, .int .i64 now] 25 (0, 0)) := by rw [hV]; exact heap_alloc_new _ _
  rw [← hV] at HR B0 ⊢
  have CV : Hid (V.heap[w.heap.size]? = some (.cells #[.slice a l.length c, .int .i64 now] 25 (0, 0))) := cV
  clear hV cV
  go_loopw [3] (fun i w' => ∃ (k : Nat), k ≤ l.length ∧ i = .int .i64 k ∧ Below V.heap.size V w' ∧ Hid (∀ i (hi : i < l.length), i < k → chainB i now l[i] = true)) (fun i _ => l.length - (intOf i).toNat)
  case atStart => exact ⟨0, by omega, rfl, Below.refl _ _, fun i _ h => by omega⟩
  case round =>
    obtain ⟨wo, rfl⟩ : ∃ x, x = wr := ⟨_, rfl⟩
    obtain ⟨k, hk1, rfl, hb, HK⟩ := hrel
    have hz := hb.size
    have e16 := H16.out
    by_cases hlt : k < l.length
    case neg =>
      have HN : Hid (true = storeB l now) := by rw [Hid, HS.out]; exact (chainsB_true (fun i hi => HK.out i hi (by omega))).symm
      have Q : Hid (Below w.heap.size w wo) := B0.out.trans (hb.mono (by omega))
      have hk16 : ¬ (k : Int) < 16 := by omega
      clear e16
      go_wp2_with fail
      go_ret
      exact ⟨ret_b HN.out, Q.out⟩
    have hk16 : (k : Int) < 16 := by omega
    clear e16
    have HX : Hid (l[k].length ≤ 1048576) := HT.out l[k] (List.getElem_mem hlt)
    have hX := HX.out
    have HB : Hid (Below V.heap.size V wo) := hb
    clear hb
    go_wp2_with fail
    go_loopw [4] (fun j w' => ∃ (m : Nat), m ≤ l[k].length ∧ j = .int .i64 m ∧ Below V.heap.size V w' ∧ Hid (∀ i, i < m → okB k now l[k] i = true)) (fun j _ => l[k].length - (intOf j).toNat)
    case atStart => exact ⟨0, by omega, rfl, HB.out, fun i h => by omega⟩
    case round =>
      obtain ⟨wi, rfl⟩ : ∃ x, x = wr := ⟨_, rfl⟩
      obtain ⟨m, hm1, rfl, hb, HM⟩ := hrel
      have hz := hb.size
      have cw := fun o => (hb.cell (p := ⟨w.heap.size, o, none⟩) (show w.heap.size < V.heap.size by omega)).trans (row_cell CV.out o)
      have Q : Hid (Below w.heap.size w wi) := B0.out.trans (hb.mono (by omega))
      obtain ⟨b, o, a3, c3, ha, _, hbl, d0, _, r3⟩ := ChRow.cells (ChRow.keep HR.out (agree hb (Nat.le_refl _))) k hlt
      subst ha
      by_cases hmt : m < l[k].length
      case neg =>
        have HC : Hid (chainB k now l[k] = true) := chainB_true (fun i hi => HM.out i (by omega))
        clear r3
        go_wp2_with fail
        refine ⟨⟨k + 1, by omega, by go_num, hb, ?_⟩, by simp [intOf]; omega⟩
        intro i hi1 hi2
        by_cases e : i = k
        · subst e; exact HC.out
        · exact HK.out i hi1 (by omega)
      have R3 : Hid (VeRow 0 wi.heap.size wi a3 l[k]) := VeRow.wide r3 (Nat.le_refl _) hb.size
      obtain ⟨b2, o2, ha2, _, hbl2, f0, f1⟩ := VeRow.cells R3.out m hmt
      subst ha2
      clear r3
      go_wp2_with fail
      obtain ⟨U, hU⟩ : ∃ U, U = wi.alloc (.cells #[.int .i64 l[k][m].ts, .int .i64 l[k][m].v] 61) := ⟨_, rfl⟩
      rw [← hU]
      have zU : U.heap.size = wi.heap.size + 1 := by rw [hU]; simp
      have BU : Hid (Below wi.heap.size wi U) := by rw [hU]; exact (Below.refl _ _).alloc (Nat.le_refl _) _
      have cu := fun o => row_cell (show U.heap[wi.heap.size]? = some (.cells #[.int .i64 l[k][m].ts, .int .i64 l[k][m].v] 61 (0, 0)) by rw [hU]; exact heap_alloc_new _ _) o
      have cx := fun o => (BU.out.cell (p := ⟨w.heap.size, o, none⟩) (show w.heap.size < wi.heap.size by omega)).trans (cw o)
      have dx := (BU.out.cell (p := ⟨b, o + k, none⟩) (show b < wi.heap.size by omega)).trans d0
      clear hU d0 f0 f1 cw
      have HP : Hid (∀ (h : 0 < m), U.cell? ⟨b2, o2 + (m - 1) * 2, none⟩ = some (.int .i64 (l[k][m - 1]'(by omega)).ts)) := fun h => by
        obtain ⟨b9, o9, e9, _, _, h9, _⟩ := VeRow.cells R3.out (m - 1) (by omega)
        simp only [Option.some.injEq, Addr.mk.injEq, and_true] at e9
        obtain ⟨rfl, rfl⟩ := e9
        exact (BU.out.cell (p := ⟨b2, o2 + (m - 1) * 2, none⟩) (show b2 < wi.heap.size by omega)).trans h9
      have QU : Hid (Below w.heap.size w U) := Q.out.trans (BU.out.mono (by omega))
      have RU : Hid (Below V.heap.size V U) := hb.trans (BU.out.mono (by omega))
      cases hA : inS l[k][m].ts 1 now
      · have HN : Hid (false = storeB l now) := by rw [Hid, HS.out]; exact (chainsB_false hlt (chainB_false hmt (okB_spec1 hmt HM.out (inB_not.1 hA)))).symm
        have HA : Hid _ := hA
        clear hA
        go_quiet ((first | (go_at_call 69; exact Calls.quiet_of_same (spec_inS _ _ _ _ HA.out))))
        go_wp2_with fail
        go_ret
        exact ⟨ret_b HN.out, below_drewN QU.out _⟩
      have HA : Hid _ := hA
      clear hA
      cases hV : valB k l[k][m].v
      · have HN : Hid (false = storeB l now) := by rw [Hid, HS.out]; exact (chainsB_false hlt (chainB_false hmt (okB_no3 (by rw [vAt_eq hmt]; exact hV)))).symm
        have HV : Hid _ := hV
        clear hV
        go_quiet ((first | (go_at_call 69; exact Calls.quiet_of_same (spec_inS _ _ _ _ HA.out)) | (go_at_call 70; exact Calls.quiet_of_same (spec_value _ _ _ (by omega) HV.out))))
        go_wp2_with fail
        go_ret
        exact ⟨ret_b HN.out, below_drewN QU.out _⟩
      have HV : Hid _ := hV
      clear hV
      by_cases hm0 : 0 < m
      · obtain ⟨j, rfl⟩ : ∃ j, m = j + 1 := ⟨m - 1, by omega⟩
        have hP := HP.out hm0
        simp only [Nat.add_sub_cancel] at hP
        have hj : ((j + 1 : Nat) : Int) - 1 = j := by omega
        have hd : (0 : Int) < ((j + 1 : Nat) : Int) := by omega
        have hj2 : (j : Int) < l[k].length := by omega
        by_cases hge : l[k][j + 1].ts ≤ l[k][j].ts
        · have HN : Hid (false = storeB l now) := by rw [Hid, HS.out]; exact (chainsB_false hlt (chainB_false hmt (okB_spec4 hmt hm0 (by simpa using hge)))).symm
          go_quiet ((first | (go_at_call 69; exact Calls.quiet_of_same (spec_inS _ _ _ _ HA.out)) | (go_at_call 70; exact Calls.quiet_of_same (spec_value _ _ _ (by omega) HV.out))))
          go_wp2_with fail
          go_ret
          exact ⟨ret_b HN.out, below_drewN QU.out _⟩
        · have HO : Hid (okB k now l[k] (j + 1) = true) := okB_spec hmt HM.out ((inS_iff _ _ _).1 HA.out).1 ((inS_iff _ _ _).1 HA.out).2 HV.out (fun _ => by simpa using hge)
          go_quiet ((first | (go_at_call 69; exact Calls.quiet_of_same (spec_inS _ _ _ _ HA.out)) | (go_at_call 70; exact Calls.quiet_of_same (spec_value _ _ _ (by omega) HV.out))))
          go_wp2_with fail
          refine ⟨⟨j + 1 + 1, by omega, by go_num, below_drewN RU.out _, ?_⟩, by simp [intOf]; omega⟩
          intro i hi
          by_cases e : i = j + 1
          · subst e; exact HO.out
          · exact HM.out i (by omega)
      · obtain rfl : m = 0 := by omega
        have HO : Hid (okB k now l[k] 0 = true) := okB_spec hmt HM.out ((inS_iff _ _ _).1 HA.out).1 ((inS_iff _ _ _).1 HA.out).2 HV.out (fun h => absurd h hm0)
        clear HP
        go_quiet ((first | (go_at_call 69; exact Calls.quiet_of_same (spec_inS _ _ _ _ HA.out)) | (go_at_call 70; exact Calls.quiet_of_same (spec_value _ _ _ (by omega) HV.out))))
        go_wp2_with fail
        refine ⟨⟨0 + 1, by omega, by go_num, below_drewN RU.out _, ?_⟩, by simp [intOf]; omega⟩
        intro i hi
        obtain rfl : i = 0 := by omega
        exact HO.out
end Go.Proofs.Ytaeknfjmbjeloaa.G
namespace Go.Proofs.Ytaeknfjmbjeloaa.G
open Go.ChangeShapes Go.WideShapes Go.ChangeAt Go.RowKit
set_option linter.unusedVariables false

def readR (l : Chs) (now key ts : Int) : Int := if askN l now key ts = 0 then readV (chAt l key.toNat) ts else 0
def chgR (l : Chs) (now key ts : Int) : Bool := if askN l now key ts = 0 then chgB (chAt l key.toNat) ts else false
def sizeN (l : Chs) : Nat := (l.map List.length).sum
def sizeR (l : Chs) (now : Int) : Int := if storeB l now = true then sizeN l else 0
def badN (l : Chs) (now : Int) : Int := if storeB l now = true then 0 else 1
theorem sizeN_take {l : Chs} {k : Nat} (hk : k < l.length) : sizeN (l.take (k + 1)) = sizeN (l.take k) + l[k].length := by
  unfold sizeN; rw [List.take_succ_eq_append_getElem hk, List.map_append, List.sum_append]; simp only [List.map_cons, List.map_nil, List.sum_cons, List.sum_nil]; omega
theorem sizeN_le {l : Chs} (h : ∀ x ∈ l, x.length ≤ 1048576) : sizeN l ≤ l.length * 1048576 := by
  induction l with
  | nil => simp [sizeN]
  | cons x l ih =>
    have h1 := h x (by simp)
    have h2 := ih (fun y hy => h y (by simp [hy]))
    unfold sizeN at h2 ⊢
    simp only [List.map_cons, List.sum_cons, List.length_cons]
    omega
theorem ret_2 {a b c d : Int} (h1 : a = b) (h2 : c = d) : Ending.returned (.tuple #[.int .i64 a, .int .i64 c]) = .returned (.tuple #[.int .i64 b, .int .i64 d]) := by rw [h1, h2]
theorem ret_b2 {a b : Bool} {c d : Int} (h1 : a = b) (h2 : c = d) : Ending.returned (.tuple #[.bool a, .int .i64 c]) = .returned (.tuple #[.bool b, .int .i64 d]) := by rw [h1, h2]
set_option maxHeartbeats 1000000 in
theorem impl_readAt (a : Option Addr) (c : Nat) (l : Chs) (now key ts : Int) (w : World) (hr : ChRow 0 w.heap.size w a l) (hbd : ChsBd 1048576 l) :
    Calls Try.prog 11 #[.agg #[.slice a l.length c, .int .i64 now], .int .i64 key, .int .i64 ts] w fun e w' => e = .returned (.tuple #[.int .i64 (readR l now key ts), .int .i64 (askN l now key ts)]) ∧ Below w.heap.size w w' := by
  have B0 : Hid (Below w.heap.size w (w.alloc (.cells #[.slice a l.length c, .int .i64 now] 25))) := (Below.refl _ _).alloc (Nat.le_refl _) _
  have HR : Hid (∀ W0, Below w.heap.size w W0 → ChRow 0 W0.heap.size W0 a l) := fun W0 hB => ChRow.up hr hB
  have HE : Hid _ := hbd
  clear hr hbd
  go_enter Try.func11, Try.ntmps11
  go_wp2_with fail
  refine (impl_keyFault a c l now key ts _ (HR.out _ B0.out) HE.out).mono ?_
  rintro e w1 ⟨rfl, hb1⟩
  have c1 := fun o => hb1.cell (p := ⟨w.heap.size, o, none⟩) (by simp)
  have Q : Hid (Below w.heap.size w w1) := below_one hb1
  clear hb1
  by_cases h0 : askN l now key ts = 0
  · obtain ⟨hs, t1, t2, k1, k2⟩ := askN_zero h0
    have h16 := (storeB_all hs).1
    have HV : Hid (readV (chAt l key.toNat) ts = readR l now key ts) := by rw [Hid, readR, if_pos h0]
    have H0 : Hid (0 = askN l now key ts) := h0.symm
    rw [h0]
    obtain ⟨k, rfl⟩ : ∃ k : Nat, key = k := ⟨key.toNat, by omega⟩
    have hlt : k < l.length := by omega
    have HS : Hid _ := store_rise hs hlt
    have HX : Hid (l[k].length ≤ 1048576) := HE.out.2 l[k] (List.getElem_mem hlt)
    rw [Int.toNat_natCast, chAt_eq hlt] at HV
    have R3 : Hid (ChRow 0 w1.heap.size w1 a l) := HR.out _ Q.out
    clear h0 hs h16
    go_wp2_with fail
    refine (tells_at a c l now ts k _ R3.out HE.out hlt HS.out).mono ?_
    rintro e w2 ⟨rfl, hb2⟩
    have Q2 : Hid (Below w.heap.size w w2) := Q.out.trans (hb2.mono Q.out.size)
    generalize readV l[k] ts = z at *
    go_wp2_with fail
    go_ret2
    exact ⟨ret_2 HV.out H0.out, Q2.out⟩
  · have HN : Hid (0 = readR l now key ts) := by rw [Hid, readR, if_neg h0]
    have h0' : (askN l now key ts != 0) = true := by simpa using h0
    obtain ⟨z, hz⟩ : ∃ z, z = askN l now key ts := ⟨_, rfl⟩
    have HZ : Hid (z = askN l now key ts) := hz
    rw [← hz] at h0' ⊢
    clear h0 hz
    go_wp2_with fail
    go_ret2
    exact ⟨ret_2 HN.out HZ.out, Q.out⟩
end Go.Proofs.Ytaeknfjmbjeloaa.G
namespace Go.Proofs.Ytaeknfjmbjeloaa.G
open Go.ChangeShapes Go.WideShapes Go.ChangeAt Go.RowKit
set_option linter.unusedVariables false

theorem keyB_in (key : Int) : inS key 0 15 = keyS key := by unfold inS keyS; rw [Bool.eq_iff_iff]; simp; omega
set_option maxHeartbeats 1000000 in
theorem spec_read (a : Option Addr) (c : Nat) (l : Chs) (now ts : Int) (k : Nat) (w : World) (hr : ChRow 0 w.heap.size w a l) (hbd : ChsBd 1048576 l) (hlt : k < l.length) :
    Calls Try.prog 66 #[.agg #[.slice a l.length c, .int .i64 now], .int .i64 k, .int .i64 ts] w fun e w' => e = .returned (.int .i64 (readV l[k] ts)) ∧ Below w.heap.size w w' := by
  have B0 : Hid (Below w.heap.size w (w.alloc (.cells #[.slice a l.length c, .int .i64 now] 25))) := (Below.refl _ _).alloc (Nat.le_refl _) _
  have hX : l[k].length ≤ 1048576 := hbd.2 l[k] (List.getElem_mem hlt)
  have hl := hbd.1
  obtain ⟨b, o, a3, c3, ha, _, hbl, d0, _, r3⟩ := ChRow.cells (ChRow.up hr B0.out) k hlt
  subst ha
  have R3 : Hid _ := r3
  clear hr hbd r3
  have hlt' : (k : Int) < l.length := by omega
  go_enter Try.func66, Try.ntmps66
  go_wp2_with fail
  go_loop [7, 8] (fun v i => ∃ (m : Nat) (z : Int), m ≤ l[k].length ∧ i = .int .i64 m ∧ v = .int .i64 z ∧ Hid (z = readV (l[k].take m) ts)) (fun _ i => l[k].length - (intOf i).toNat)
  case atStart => exact ⟨0, 0, by omega, rfl, rfl, rfl⟩
  case round =>
    obtain ⟨m, z, hm, rfl, rfl, HZ⟩ := hrel
    by_cases hmt : m < l[k].length
    · obtain ⟨b2, o2, ha2, _, hbl2, f0, f1⟩ := VeRow.cells R3.out m hmt
      subst ha2
      have hmt' : (m : Int) < l[k].length := by omega
      have HT : Hid _ := readV_take (ts := ts) hmt
      by_cases hc : l[k][m].ts ≤ ts
      · have HZ2 : Hid (l[k][m].v = readV (l[k].take (m + 1)) ts) := by rw [Hid, HT.out, if_pos hc]
        clear HT
        go_wp2_with fail
        go_round
        case rel => exact ⟨m + 1, _, by omega, by go_num, rfl, HZ2⟩
        case measure => simp [intOf]; omega
      · have HZ2 : Hid (z = readV (l[k].take (m + 1)) ts) := by rw [Hid, HT.out, if_neg hc]; exact HZ.out
        clear HT
        go_wp2_with fail
        go_round
        case rel => exact ⟨m + 1, _, by omega, by go_num, rfl, HZ2⟩
        case measure => simp [intOf]; omega
    · have HZ2 : Hid (z = readV l[k] ts) := by have := HZ.out; rw [List.take_of_length_le (by omega)] at this; exact this
      go_wp2_with fail
      go_ret
      exact ⟨ret_i HZ2.out, B0.out⟩
set_option maxHeartbeats 1000000 in
theorem spec_changed (a : Option Addr) (c : Nat) (l : Chs) (now ts : Int) (k : Nat) (w : World) (hr : ChRow 0 w.heap.size w a l) (hbd : ChsBd 1048576 l) (hlt : k < l.length) :
    Calls Try.prog 61 #[.agg #[.slice a l.length c, .int .i64 now], .int .i64 k, .int .i64 ts] w fun e w' => e = .returned (.bool (chgB l[k] ts)) ∧ Below w.heap.size w w' := by
  have B0 : Hid (Below w.heap.size w (w.alloc (.cells #[.slice a l.length c, .int .i64 now] 25))) := (Below.refl _ _).alloc (Nat.le_refl _) _
  have hX : l[k].length ≤ 1048576 := hbd.2 l[k] (List.getElem_mem hlt)
  have hl := hbd.1
  obtain ⟨b, o, a3, c3, ha, _, hbl, d0, _, r3⟩ := ChRow.cells (ChRow.up hr B0.out) k hlt
  subst ha
  have R3 : Hid _ := r3
  clear hr hbd r3
  have hlt' : (k : Int) < l.length := by omega
  by_cases h0 : l[k].length = 0
  · have HN : Hid (false = chgB l[k] ts) := by simp [Hid, chgB, h0]
    have h0' : ¬ (0 : Int) < l[k].length := by omega
    clear h0
    go_enter Try.func61, Try.ntmps61
    go_wp2_with fail
    go_ret
    exact ⟨ret_b HN.out, B0.out⟩
  · obtain ⟨n, hn⟩ : ∃ n, l[k].length = n + 1 := ⟨l[k].length - 1, by omega⟩
    have hnl : n < l[k].length := by omega
    obtain ⟨b2, o2, ha2, _, hbl2, f0, f1⟩ := VeRow.cells R3.out n hnl
    subst ha2
    have HN : Hid (decide (ts < (l[k][n]'hnl).ts) = chgB l[k] ts) := by
      unfold Hid chgB
      rw [show l[k].length - 1 = n by omega, tsAt_eq (by omega), show decide (0 < l[k].length) = true by simpa using (by omega)]
      simp
    have h0' : (0 : Int) < l[k].length := by omega
    have e1 : (l[k].length : Int) - 1 = n := by omega
    have e2 : (n : Int) < l[k].length := by omega
    clear h0 hn
    go_enter Try.func61, Try.ntmps61
    go_wp2_with fail
    go_ret
    exact ⟨ret_b HN.out, B0.out⟩
end Go.Proofs.Ytaeknfjmbjeloaa.G
namespace Go.Proofs.Ytaeknfjmbjeloaa.G
open Go.ChangeShapes Go.WideShapes Go.ChangeAt Go.RowKit
set_option linter.unusedVariables false

def NuAt (rd : Nat → Option Value) (o : Nat) (x : Int) : Prop := rd o = some (.int .i64 x)
abbrev NuRow (lo hi : Nat) (w : World) (a : Option Addr) (l : List Int) : Prop := Row NuAt 1 lo hi w a l
theorem NuRow.keep {lo hi : Nat} {w w' : World} {a : Option Addr} {l : List Int} (h : NuRow lo hi w a l) (hk : Agree lo hi w w') : NuRow lo hi w' a l := Row.of h hk fun _ _ _ hx => hx
theorem NuRow.wide {lo hi lo' hi' : Nat} {w : World} {a : Option Addr} {l : List Int} (h : NuRow lo hi w a l) (e1 : lo' ≤ lo) (e2 : hi ≤ hi') : NuRow lo' hi' w a l := Row.out h e1 e2 fun _ _ _ hx => hx
theorem NuRow.up {w w' : World} {a : Option Addr} {l : List Int} (h : NuRow 0 w.heap.size w a l) (hb : Below w.heap.size w w') : NuRow 0 w'.heap.size w' a l := NuRow.wide (NuRow.keep h (agree hb (Nat.le_refl _))) (Nat.le_refl _) hb.size
theorem NuRow.cells {lo hi : Nat} {w : World} {a : Option Addr} {l : List Int} (h : NuRow lo hi w a l) (k : Nat) (hk : k < l.length) :
    ∃ b o, a = some ⟨b, o, none⟩ ∧ lo ≤ b ∧ b < hi ∧ w.cell? ⟨b, o + k, none⟩ = some (.int .i64 l[k]) := by
  obtain ⟨b, o, e1, e2, e3, h0⟩ := Row.at_ h k hk
  rw [Nat.mul_one] at h0
  exact ⟨b, o, e1, e2, e3, h0⟩
theorem nu_of {w : World} {N lo hi : Nat} {cs : Array Value} {T : TypeId} {l : List Int} (h : w.heap[N]? = some (.cells cs T (0, 0))) (h1 : lo ≤ N) (h2 : N < hi) (hc : ∀ i (h : i < l.length), cs[i]? = some (.int .i64 l[i])) : NuRow lo hi w (some ⟨N, 0, none⟩) l := by
  refine .inr ⟨N, 0, rfl, h1, h2, fun i x hx => ?_⟩
  obtain ⟨hi, rfl⟩ := List.getElem?_eq_some_iff.1 hx
  rw [row_rd h]
  show cs[0 + i * 1]? = _
  rw [Nat.mul_one, Nat.zero_add]
  exact hc i hi
set_option maxRecDepth 100000 in
theorem info_int : ∃ i, Try.prog.info? 3 = some i ∧ i.zero = some (.int .i64 0) ∧ i.size = 1 ∧ i.bytes = 8 := by
  refine ⟨_, rfl, ?_, ?_, ?_⟩ <;> kernel_rfl
/-- What all keys tell at an hour. -/
def vals (l : Chs) (ts : Int) : List Int := l.map fun x => readV x ts
theorem vals_len (l : Chs) (ts : Int) : (vals l ts).length = l.length := by simp [vals]
theorem vals_at {l : Chs} {ts : Int} {i : Nat} (h : i < (vals l ts).length) : (vals l ts)[i] = readV (l[i]'(by rw [vals_len] at h; exact h)) ts := by simp [vals]
end Go.Proofs.Ytaeknfjmbjeloaa.G
namespace Go.Proofs.Ytaeknfjmbjeloaa.G
open Go.ChangeShapes Go.WideShapes Go.ChangeAt Go.RowKit
set_option linter.unusedVariables false

def VeCell (cs : Array Value) (o : Nat) (x : Ve) : Prop := cs[o]? = some (.int .i64 x.ts) ∧ cs[o + 1]? = some (.int .i64 x.v)
/-- A block that holds a chain's versions, from its start. -/
def VeBlk (w : World) (b : Nat) (l : List Ve) : Prop := ∃ cs, w.heap[b]? = some (.cells cs 61 (0, 0)) ∧ l.length * 2 ≤ cs.size ∧ ∀ i x, l[i]? = some x → VeCell cs (i * 2) x
theorem VeBlk.move {w w' : World} {b : Nat} {l : List Ve} (h : VeBlk w b l) (e : w'.heap[b]? = w.heap[b]?) : VeBlk w' b l := by
  obtain ⟨cs, h1, h2, h3⟩ := h
  exact ⟨cs, e.trans h1, h2, h3⟩
theorem VeBlk.row {w : World} {b : Nat} {l : List Ve} {lo hi : Nat} (h : VeBlk w b l) (h1 : lo ≤ b) (h2 : b < hi) : VeRow lo hi w (some ⟨b, 0, none⟩) l := by
  obtain ⟨cs, g1, g2, g3⟩ := h
  refine .inr ⟨b, 0, rfl, h1, h2, fun i x hx => ?_⟩
  rw [row_rd g1, Nat.zero_add]
  exact g3 i x hx
theorem VeBlk.lt {w : World} {b : Nat} {l : List Ve} (h : VeBlk w b l) : b < w.heap.size := by
  obtain ⟨cs, g1, _⟩ := h
  exact (Array.getElem?_eq_some_iff.1 g1).1
def bput (bs : Nat → Nat) (k g : Nat) : Nat → Nat := fun i => if i = k then g else bs i
theorem bput_at (bs : Nat → Nat) (k g : Nat) : bput bs k g k = g := by simp [bput]
theorem bput_ne (bs : Nat → Nat) (k g : Nat) {i : Nat} (h : i ≠ k) : bput bs k g i = bs i := by simp [bput, h]
/-- The first k chains of a store are laid, each in a block of its own behind N. -/
def ChLaid (N : Nat) (w : World) (cs : Array Value) (l : Chs) (k : Nat) (bs : Nat → Nat) : Prop :=
  (∀ i x, i < k → l[i]? = some x → ∃ c, cs[i]? = some (.slice (some ⟨bs i, 0, none⟩) x.length c) ∧ x.length ≤ c ∧ N < bs i ∧ bs i < w.heap.size ∧ VeBlk w (bs i) x) ∧ (∀ i j, i < k → j < k → i ≠ j → bs i ≠ bs j)
theorem ChLaid.keep {N : Nat} {w w' : World} {cs : Array Value} {l : Chs} {k : Nat} {bs : Nat → Nat} (h : ChLaid N w cs l k bs) (hs : w.heap.size ≤ w'.heap.size) (hk : Agree (N + 1) w.heap.size w w') : ChLaid N w' cs l k bs := by
  refine ⟨fun i x hi hx => ?_, h.2⟩
  obtain ⟨c, h1, h2, h3, h4, h5⟩ := h.1 i x hi hx
  exact ⟨c, h1, h2, h3, by omega, h5.move (hk _ (by omega) h4)⟩
theorem ChLaid.put {N : Nat} {w : World} {cs : Array Value} {l : Chs} {k : Nat} {bs : Nat → Nat} {g c : Nat} (h : ChLaid N w cs l k bs) (hk : k < l.length) (hs : l.length ≤ cs.size) (hc : l[k].length ≤ c) (hg1 : N < g) (hg2 : g < w.heap.size) (hv : VeBlk w g l[k]) (hn : ∀ i, i < k → bs i ≠ g) :
    ChLaid N w (cs.setIfInBounds k (.slice (some ⟨g, 0, none⟩) l[k].length c)) l (k + 1) (bput bs k g) := by
  refine ⟨fun i x hi hx => ?_, fun i j hi hj hij => ?_⟩
  · by_cases hik : i = k
    · subst hik
      rw [List.getElem?_eq_getElem hk] at hx
      simp only [Option.some.injEq] at hx
      subst hx
      rw [bput_at]
      exact ⟨c, by simp [Array.getElem?_setIfInBounds]; omega, hc, hg1, hg2, hv⟩
    · obtain ⟨c', h1, h2, h3, h4, h5⟩ := h.1 i x (by omega) hx
      rw [bput_ne _ _ _ hik]
      exact ⟨c', by rw [Array.getElem?_setIfInBounds_ne (by omega)]; exact h1, h2, h3, h4, h5⟩
  · by_cases hik : i = k
    · subst hik; rw [bput_at, bput_ne _ _ _ (by omega)]; exact (hn j (by omega)).symm
    · by_cases hjk : j = k
      · subst hjk; rw [bput_ne _ _ _ hik, bput_at]; exact hn i (by omega)
      · rw [bput_ne _ _ _ hik, bput_ne _ _ _ hjk]; exact h.2 i j (by omega) (by omega) hij
/-- A store's chains that a call owns: all of them lie between two numbers of blocks, each that is not empty in a block of its own. -/
def StOwn (lo hi : Nat) (w : World) (a : Option Addr) (l : Chs) (bs : Nat → Nat) : Prop :=
  ∃ b cs, a = some ⟨b, 0, none⟩ ∧ lo ≤ b ∧ b < hi ∧ w.heap[b]? = some (.cells cs 58 (0, 0)) ∧ l.length ≤ cs.size ∧
    (∀ i x, l[i]? = some x → ∃ a3 c, cs[i]? = some (.slice a3 x.length c) ∧ x.length ≤ c ∧ (x ≠ [] → a3 = some ⟨bs i, 0, none⟩ ∧ lo ≤ bs i ∧ bs i < hi ∧ bs i ≠ b ∧ VeBlk w (bs i) x)) ∧
    (∀ i j x y, l[i]? = some x → l[j]? = some y → i ≠ j → x ≠ [] → y ≠ [] → bs i ≠ bs j)
theorem StOwn.of_laid {N : Nat} {w : World} {cs : Array Value} {l : Chs} {bs : Nat → Nat} (h : ChLaid N w cs l l.length bs) (hh : w.heap[N]? = some (.cells cs 58 (0, 0))) (hs : l.length ≤ cs.size) : StOwn N w.heap.size w (some ⟨N, 0, none⟩) l bs := by
  refine ⟨N, cs, rfl, Nat.le_refl _, (Array.getElem?_eq_some_iff.1 hh).1, hh, hs, fun i x hx => ?_, fun i j x y hx hy hij _ _ => h.2 i j (List.getElem?_eq_some_iff.1 hx).1 (List.getElem?_eq_some_iff.1 hy).1 hij⟩
  obtain ⟨c, h1, h2, h3, h4, h5⟩ := h.1 i x (List.getElem?_eq_some_iff.1 hx).1 hx
  exact ⟨_, c, h1, h2, fun _ => ⟨rfl, by omega, h4, by omega, h5⟩⟩
theorem StOwn.keep {lo hi : Nat} {w w' : World} {a : Option Addr} {l : Chs} {bs : Nat → Nat} (h : StOwn lo hi w a l bs) (hk : Agree lo hi w w') : StOwn lo hi w' a l bs := by
  obtain ⟨b, cs, e, h1, h2, h3, h4, h5, h6⟩ := h
  refine ⟨b, cs, e, h1, h2, (hk b h1 h2).trans h3, h4, fun i x hx => ?_, h6⟩
  obtain ⟨a3, c, g1, g2, g3⟩ := h5 i x hx
  refine ⟨a3, c, g1, g2, fun hne => ?_⟩
  obtain ⟨f1, f2, f3, f4, f5⟩ := g3 hne
  exact ⟨f1, f2, f3, f4, f5.move (hk _ f2 f3)⟩
theorem StOwn.wide {lo hi lo' hi' : Nat} {w : World} {a : Option Addr} {l : Chs} {bs : Nat → Nat} (h : StOwn lo hi w a l bs) (e1 : lo' ≤ lo) (e2 : hi ≤ hi') : StOwn lo' hi' w a l bs := by
  obtain ⟨b, cs, e, h1, h2, h3, h4, h5, h6⟩ := h
  refine ⟨b, cs, e, by omega, by omega, h3, h4, fun i x hx => ?_, h6⟩
  obtain ⟨a3, c, g1, g2, g3⟩ := h5 i x hx
  refine ⟨a3, c, g1, g2, fun hne => ?_⟩
  obtain ⟨f1, f2, f3, f4, f5⟩ := g3 hne
  exact ⟨f1, by omega, by omega, f4, f5⟩
theorem StOwn.row {lo hi : Nat} {w : World} {a : Option Addr} {l : Chs} {bs : Nat → Nat} (h : StOwn lo hi w a l bs) : ChRow lo hi w a l := by
  obtain ⟨b, cs, rfl, h1, h2, h3, h4, h5, h6⟩ := h
  refine .inr ⟨b, 0, rfl, h1, h2, fun i x hx => ?_⟩
  rw [row_rd h3]
  obtain ⟨a3, c, g1, g2, g3⟩ := h5 i x hx
  refine ⟨a3, c, by simpa using g1, g2, ?_⟩
  by_cases hne : x = []
  · exact .inl hne
  · obtain ⟨f1, f2, f3, f4, f5⟩ := g3 hne
    rw [f1]
    exact f5.row f2 f3
theorem put_ve {cs : Array Value} {l : List Ve} {k : Nat} (hs : cs.size = l.length * 2) (hk : k < l.length) (h : ∀ i x, i < k → l[i]? = some x → VeCell cs (i * 2) x) :
    ∀ i x, i < k + 1 → l[i]? = some x → VeCell ((cs.setIfInBounds (k * 2) (.int .i64 l[k].ts)).setIfInBounds (k * 2 + 1) (.int .i64 l[k].v)) (i * 2) x := by
  intro i x hi hx
  by_cases hik : i = k
  · subst hik
    rw [List.getElem?_eq_getElem hk] at hx
    simp only [Option.some.injEq] at hx
    subst hx
    refine ⟨?_, ?_⟩ <;> simp [Array.getElem?_setIfInBounds] <;> omega
  · obtain ⟨c0, c1⟩ := h i x (by omega) hx
    refine ⟨?_, ?_⟩
    · rw [Array.getElem?_setIfInBounds_ne (by omega), Array.getElem?_setIfInBounds_ne (by omega)]; exact c0
    · rw [Array.getElem?_setIfInBounds_ne (by omega), Array.getElem?_setIfInBounds_ne (by omega)]; exact c1

set_option maxRecDepth 100000 in
theorem info_Ve : ∃ i, Try.prog.info? 61 = some i ∧ i.zero = some (.agg #[.int .i64 0, .int .i64 0]) ∧ i.size = 2 ∧ i.bytes = 16 := by
  refine ⟨_, rfl, ?_, ?_, ?_⟩ <;> kernel_rfl
set_option maxRecDepth 100000 in
theorem info_Ch : ∃ i, Try.prog.info? 58 = some i ∧ i.zero = some (.slice none 0 0) ∧ i.size = 1 ∧ i.bytes = 24 := by
  refine ⟨_, rfl, ?_, ?_, ?_⟩ <;> kernel_rfl
end Go.Proofs.Ytaeknfjmbjeloaa.G
