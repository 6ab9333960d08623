/- Proved: at every two rows of bytes the law FnStore returns true, and its arguments read afterwards as they read before. No conditions beyond the row's own. -/
import Derived.Test.YtljnhecdelimfaaStWrLaw
import Derived.Test.YtljnhecdelimfaaStSame
import Derived.Test.YtljnhecdelimfaaStWaBoth
import Derived.Test.YtljnhecdelimfaaStKeysTwo
import Derived.Test.YtljnhecdelimfaaStOf
import Derived.Test.YtljnhecdelimfaaStPutsOK
import Derived.Test.YtljnhecdelimfaaStSpecTwo
import Derived.BigQuiet
import Derived.Deep.CutRange
import Derived.Deep.CutBlock
import Derived.Test.YtljnhecdelimfaaStSrc
import Derived.Deep.Slices
import Derived.WalkKit
import Derived.ProofKit
import Derived.OpenShut
import Derived.ShutString
import Derived.ChangeOld
import Derived.Below
import Derived.Lib.SmallJoins
namespace Go.Proofs.Ytljnhecdelimfaa.G
set_option linter.unusedVariables false

/-- A store behind some writes, or behind none. -/
def StIs (l : Chs) (now : Int) (ps : List Ve) (m : Chs) (nr : Int) : Prop := (ps.length = 0 ∧ m = l ∧ nr = now) ∨ (0 < ps.length ∧ m = wrAll (now + 1) l ps ∧ nr = now + 1)
theorem stIs (l : Chs) (now : Int) (ps : List Ve) : ∃ m nr, StIs l now ps m nr := by
  by_cases h : ps.length = 0
  · exact ⟨_, _, .inl ⟨h, rfl, rfl⟩⟩
  · exact ⟨_, _, .inr ⟨by omega, rfl, rfl⟩⟩
theorem hour_ok2 {l : Chs} {now ts : Int} (h : storeB l now = true) (h0 : 0 ≤ ts) (h1 : ts ≤ now) : hourN l now ts = 0 := by simp [hourN, h, inB, h0, h1]
theorem ask_ok2 {l : Chs} {now ts : Int} {k : Nat} (h : storeB l now = true) (h0 : 0 ≤ ts) (h1 : ts ≤ now) (hk : k < 16) : askN l now k ts = 0 := by
  have h3 : keyB (k : Int) = true := (keyB_iff _).2 ⟨by omega, by omega⟩
  rw [askN, if_pos (hour_ok2 h h0 h1), if_pos h3]
theorem StIs.wa {l : Chs} {now : Int} {ps : List Ve} {m : Chs} {nr : Int} (h : StIs l now ps m nr) (hs : storeB l now = true) (hp : putsB ps = true) (hn : now ≠ 100000) : WaIs l now ps m nr nr 0 := by
  have h4 := (putsB_all hp).1
  rcases h with ⟨h0, rfl, rfl⟩ | ⟨h0, rfl, rfl⟩
  · exact .inr (.inr (.inr (.inr (.inl ⟨h0, hs, hp, hn, rfl, rfl, rfl, rfl⟩))))
  · exact .inr (.inr (.inr (.inr (.inr ⟨h0, by omega, hs, hp, hn, rfl, rfl, rfl, rfl⟩))))
theorem StIs.ok {l : Chs} {now : Int} {ps : List Ve} {m : Chs} {nr : Int} (h : StIs l now ps m nr) (hs : storeB l now = true) (hp : putsB ps = true) (hn : now + 1 ≤ 100000) : storeB m nr = true := by
  rcases h with ⟨h0, rfl, rfl⟩ | ⟨h0, rfl, rfl⟩
  · exact hs
  · exact storeB_wr hs hn (putsB_all hp).2
theorem StIs.hour {l : Chs} {now : Int} {ps : List Ve} {m : Chs} {nr : Int} (h : StIs l now ps m nr) : now ≤ nr ∧ nr ≤ now + 1 := by
  rcases h with ⟨h0, rfl, rfl⟩ | ⟨h0, rfl, rfl⟩ <;> omega
theorem StIs.at_ {l : Chs} {now : Int} {ps : List Ve} {m : Chs} {nr : Int} (h : StIs l now ps m nr) (hs : storeB l now = true) (hp : putsB ps = true) {k : Nat} (hk : k < 16) : chAt m k = chAt l k ++ newV (now + 1) (lastW k ps) := by
  obtain ⟨h16, _, _, hc⟩ := storeB_all hs
  rcases h with ⟨h0, rfl, rfl⟩ | ⟨h0, rfl, rfl⟩
  · have : ps = [] := List.eq_nil_of_length_eq_zero h0
    subst this
    simp [lastW, newV]
  · have hkl : k < l.length := by omega
    rw [wrAll_at ps hkl (fun i hi => by have := (chain_pos (chainsB_at hc hkl) i hi).2; omega) (fun p hp' => (putB_key ((putsB_all hp).2 p hp')).1), chAt_eq hkl]
theorem StIs.now_ {l : Chs} {now : Int} {ps : List Ve} {m : Chs} {nr : Int} (h : StIs l now ps m nr) (hs : storeB l now = true) (hp : putsB ps = true) (hn : now + 1 ≤ 100000) {k : Nat} (hk : k < 16) : readR m nr k nr = (lastW k ps).getD (readR l now k now) := by
  obtain ⟨h16, h0, _, hc⟩ := storeB_all hs
  have hh := h.hour
  have e1 := ask_ok2 (k := k) (h.ok hs hp hn) (show 0 ≤ nr by omega) (Int.le_refl _) hk
  have e2 := ask_ok2 (k := k) hs h0 (Int.le_refl _) hk
  have hkl : k < l.length := by omega
  have hch := chainsB_at hc hkl
  rw [readR, if_pos e1, readR, if_pos e2, Int.toNat_natCast, h.at_ hs hp hk, chAt_eq hkl]
  cases ho : lastW k ps with
  | none =>
    simp only [newV, List.append_nil, Option.getD_none]
    exact readV_later hch hh.1
  | some v =>
    have : nr = now + 1 := by
      rcases h with ⟨h0, _, _⟩ | ⟨_, _, e⟩
      · have : ps = [] := List.eq_nil_of_length_eq_zero h0
        subst this
        simp [lastW] at ho
      · exact e
    rw [this, readV_now]
    rfl
theorem StIs.old {l : Chs} {now : Int} {ps : List Ve} {m : Chs} {nr : Int} (h : StIs l now ps m nr) (hs : storeB l now = true) (hp : putsB ps = true) (hn : now + 1 ≤ 100000) {k : Nat} (hk : k < 16) : readR m nr k now = readR l now k now := by
  obtain ⟨h16, h0, _, hc⟩ := storeB_all hs
  have hh := h.hour
  have e1 := ask_ok2 (k := k) (h.ok hs hp hn) h0 hh.1 hk
  have e2 := ask_ok2 (k := k) hs h0 (Int.le_refl _) hk
  rw [readR, if_pos e1, readR, if_pos e2, Int.toNat_natCast, h.at_ hs hp hk]
  exact readV_new (by omega) _
theorem StIs.chg {l : Chs} {now : Int} {ps : List Ve} {m : Chs} {nr : Int} (h : StIs l now ps m nr) (hs : storeB l now = true) (hp : putsB ps = true) (hn : now + 1 ≤ 100000) {k : Nat} (hk : k < 16) : chgR m nr k now = (lastW k ps).isSome := by
  obtain ⟨h16, h0, _, hc⟩ := storeB_all hs
  have hh := h.hour
  have e1 := ask_ok2 (k := k) (h.ok hs hp hn) h0 hh.1 hk
  have hkl : k < l.length := by omega
  rw [chgR, if_pos e1, Int.toNat_natCast, h.at_ hs hp hk, chAt_eq hkl]
  exact chgB_new (chainsB_at hc hkl) _
theorem lastW_take {k : Int} {ps : List Ve} {i : Nat} (hi : i < ps.length) : lastW k (ps.take (i + 1)) = if ps[i].ts = k then some ps[i].v else lastW k (ps.take i) := by
  unfold lastW; rw [List.take_succ_eq_append_getElem hi, List.foldl_append]; rfl
theorem same_self {l : Chs} {now : Int} (h : storeB l now = true) : sameR l now l now = true ∧ sameC l now l now = 0 := by simp [sameR, sameC, bothB, h]
end Go.Proofs.Ytljnhecdelimfaa.G
namespace Go.Proofs.Ytljnhecdelimfaa.G
open Go.ChangeShapes Go.WideShapes Go.ChangeAt Go.RowKit
set_option linter.unusedVariables false

set_option maxHeartbeats 2000000 in
theorem same_ints (a a' : Option Addr) (c c' : Nat) (x : List Int) (w : World) (hr : NuRow 0 w.heap.size w a x) (hr' : NuRow 0 w.heap.size w a' x) (hl : x.length ≤ 1048576) :
    Calls Try.prog 15 #[.slice a x.length c, .slice a' x.length c'] w fun e w' => e = .returned (.bool true) ∧ Below w.heap.size w w' := by
  have HR : Hid _ := hr
  have HR' : Hid _ := hr'
  clear hr hr'
  go_enter Try.func15, Try.ntmps15
  go_wp2_with fail
  go_loopw [5] (fun i w' => ∃ (k q : Nat), k ≤ x.length ∧ i = .int .i64 k ∧ w' = w.drewN q) (fun i _ => x.length - (intOf i).toNat)
  case atStart => exact ⟨0, 0, by omega, rfl, rfl⟩
  case round =>
    obtain ⟨k, q, hk, rfl, rfl⟩ := hrel
    by_cases hlt : k < x.length
    · obtain ⟨b, o, ha, _, hbl, d0⟩ := NuRow.cells HR.out k hlt
      obtain ⟨b', o', ha', _, hbl', d1⟩ := NuRow.cells HR'.out k hlt
      subst ha ha'
      have hlt' : (k : Int) < x.length := by omega
      go_wp2_with fail
      go_quiet (fail)
      go_wp2_with fail
      exact ⟨⟨k + 1, q + nq, by omega, by go_num, by simp⟩, by simp [intOf]; omega⟩
    · go_wp2_with fail
      go_ret
      exact ⟨rfl, below_drewN (Below.refl _ _) _⟩
set_option maxHeartbeats 1000000 in
theorem putsOf_any (n c : Nat) (a : Option Addr) (w : World) (hr : ByteRow w.heap.size w a n) (hn : n ≤ 1048576) :
    Calls Try.prog 5 #[.slice a n c] w fun e w' => (∃ (ps : List Ve) (a' : Option Addr) (c' : Nat), e = .returned (.slice a' ps.length c') ∧ VeRow 0 w'.heap.size w' a' ps ∧ putsB ps = true) ∧ Below w.heap.size w w' := by
  have HR : Hid _ := hr
  clear hr
  go_enter Try.func5, Try.ntmps5
  go_wp2_with fail
  refine (source_any n c a _ hn).mono ?_
  rintro e w1 ⟨rfl, s1, b1⟩
  have z1 := b1.size
  have HR1 : Hid (ByteRow w.heap.size w1 a n) := ByteRow.keep HR.out z1 (fun k hk => b1.block k hk)
  have HS1 : Hid _ := s1
  have B1 : Hid _ := b1
  clear s1 b1 HR
  go_wp2_with fail
  refine (puts_any w.heap.size n 0 a _ HS1.out HR1.out (by omega) hn).mono ?_
  rintro e w2 ⟨⟨ps, a', c', rfl, r2, hl2, hp2⟩, _, g2⟩
  have R2 : Hid _ := r2
  have HP2 : Hid (putsB ps = true) := putsB_yes (by omega) (fun i hi => hp2 ps[i] (List.getElem_mem hi))
  have B2 : Hid (Below w.heap.size w w2) := B1.out.grown g2 z1 (fun k hk => by simp only [Option.some.injEq] at hk; omega)
  clear r2 hp2 g2
  go_wp2_with fail
  go_ret
  exact ⟨⟨ps, a', c', rfl, R2.out, HP2.out⟩, B2.out⟩
end Go.Proofs.Ytljnhecdelimfaa.G
namespace Go.Proofs.Ytljnhecdelimfaa.G
open Go.ChangeShapes Go.WideShapes Go.ChangeAt Go.RowKit
set_option linter.unusedVariables false

set_option maxHeartbeats 4000000 in
theorem same_store (a a' : Option Addr) (c c' : Nat) (l : Chs) (now : Int) (w : World) (hr : ChRow 0 w.heap.size w a l) (hr' : ChRow 0 w.heap.size w a' l) (hbd : ChsBd 1048576 l) :
    Calls Try.prog 8 #[.agg #[.slice a l.length c, .int .i64 now], .agg #[.slice a' l.length c', .int .i64 now]] w fun e w' => e = .returned (.bool true) ∧ Below w.heap.size w w' := by
  obtain ⟨V, hV⟩ : ∃ V : World, V = (w.alloc (.cells #[.slice a l.length c, .int .i64 now] 25)).alloc (.cells #[.slice a' l.length c', .int .i64 now] 25) := ⟨_, rfl⟩
  have zV : w.heap.size + 2 ≤ V.heap.size := by rw [hV]; simp
  have bV : Below w.heap.size w V := by
    rw [hV]
    repeat (first | exact Below.refl _ _ | refine Below.alloc ?_ (by first | omega | (simp <;> omega)) _)
  have c0 : V.heap[w.heap.size]? = some (.cells #[.slice a l.length c, .int .i64 now] 25 (0, 0)) := by
    rw [hV, Below.heap_alloc _ _ _ (by simp <;> omega)]; exact heap_alloc_new _ _
  have c1 : V.heap[w.heap.size + 1]? = some (.cells #[.slice a' l.length c', .int .i64 now] 25 (0, 0)) := by
    have := heap_alloc_new (w.alloc (.cells #[.slice a l.length c, .int .i64 now] 25)) (.cells #[.slice a' l.length c', .int .i64 now] 25)
    rw [hV]; simpa using this
  have KV : Hid (∀ W, Below V.heap.size V W → (W.heap[w.heap.size]? = some (.cells #[.slice a l.length c, .int .i64 now] 25 (0, 0)) ∧ W.heap[w.heap.size + 1]? = some (.cells #[.slice a' l.length c', .int .i64 now] 25 (0, 0))) ∧ Below w.heap.size w W) := fun W h => ⟨⟨(h.block _ (by omega)).trans c0, (h.block _ (by omega)).trans c1⟩, bV.trans (h.mono (by omega))⟩
  have HR : Hid _ := hr
  have HR' : Hid _ := hr'
  have hl := hbd.1
  have HT : Hid _ := hbd.2
  have x0 := fun o => row_cell c0 o
  have x1 := fun o => row_cell c1 o
  clear hr hr' hbd c0 c1 bV
  go_enter Try.func8, Try.ntmps8
  go_upto_region 1 with fail
  rw [← hV]
  clear hV
  go_wp2_with fail
  go_loopw [5] (fun i w' => ∃ (k : Nat), k ≤ l.length ∧ i = .int .i64 k ∧ Hid (Below V.heap.size V w')) (fun i _ => l.length - (intOf i).toNat)
  case atStart => exact ⟨0, by omega, rfl, Below.refl _ _⟩
  case round =>
    obtain ⟨wo, rfl⟩ : ∃ x, x = wr := ⟨_, rfl⟩
    obtain ⟨k, hk, rfl, HB⟩ := hrel
    obtain ⟨⟨e0, e1⟩, q⟩ := KV.out _ HB.out
    have x5 := fun o => row_cell e0 o
    have x6 := fun o => row_cell e1 o
    have Q : Hid _ := q
    by_cases hlt : k < l.length
    case neg =>
      obtain rfl : k = l.length := by omega
      have hlt' : ¬ (l.length : Int) < l.length := by omega
      clear e0 e1 q x0 x1
      go_wp2_with fail
      go_ret
      exact ⟨rfl, Q.out⟩
    obtain ⟨b, o, a3, c3, ha, _, hbl, d0, _, r3⟩ := ChRow.cells (ChRow.keep HR.out (agree q (Nat.le_refl _))) k hlt
    obtain ⟨b', o', a4, c4, ha', _, hbl', d0', _, r4⟩ := ChRow.cells (ChRow.keep HR'.out (agree q (Nat.le_refl _))) k hlt
    subst ha ha'
    have hX : l[k].length ≤ 1048576 := HT.out l[k] (List.getElem_mem hlt)
    have R3 : Hid _ := r3
    have R4 : Hid _ := r4
    have hlt' : (k : Int) < l.length := by omega
    have D0 : Hid _ := d0
    have D1 : Hid _ := d0'
    have zo := HB.out.size
    clear e0 e1 q r3 r4 x0 x1
    go_wp2_with fail
    go_quiet (fail)
    go_wp2_with fail
    go_loopw [6] (fun i w' => ∃ (n : Nat), n ≤ l[k].length ∧ i = .int .i64 n ∧ Hid (Below wo.heap.size wo w')) (fun i _ => l[k].length - (intOf i).toNat)
    case atStart => exact ⟨0, by omega, rfl, below_drewN (Below.refl _ _) _⟩
    case round =>
      obtain ⟨wi, rfl⟩ : ∃ x, x = wr := ⟨_, rfl⟩
      obtain ⟨n, hn, rfl, HI⟩ := hrel
      have QI : Hid (Below V.heap.size V wi) := HB.out.trans (HI.out.mono (by omega))
      obtain ⟨⟨e0, e1⟩, _⟩ := KV.out _ QI.out
      have x7 := fun o => row_cell e0 o
      have x8 := fun o => row_cell e1 o
      have d5 := (HI.out.cell (p := ⟨b, o + k, none⟩) (show b < wo.heap.size by omega)).trans D0.out
      have d6 := (HI.out.cell (p := ⟨b', o' + k, none⟩) (show b' < wo.heap.size by omega)).trans D1.out
      by_cases hnt : n < l[k].length
      · have hnt' : (n : Int) < l[k].length := by omega
        obtain ⟨b2, o2, ha2, _, hbl2, f0, f1⟩ := VeRow.cells (VeRow.keep R3.out (agree HI.out (by omega))) n hnt
        obtain ⟨b3, o3, ha3, _, hbl3, f2, f3⟩ := VeRow.cells (VeRow.keep R4.out (agree HI.out (by omega))) n hnt
        subst ha2 ha3
        clear e0 e1 x5 x6 d0 d0'
        go_wp2_with fail
        go_quiet (fail)
        go_wp2_with fail
        exact ⟨⟨n + 1, by omega, by go_num, below_drewN HI.out _⟩, by simp [intOf]; omega⟩
      · obtain rfl : n = l[k].length := by omega
        have hnt' : ¬ (l[k].length : Int) < l[k].length := by omega
        clear e0 e1 x5 x6 d0 d0'
        go_wp2_with fail
        exact ⟨⟨k + 1, by omega, by go_num, QI⟩, by simp [intOf]; omega⟩
end Go.Proofs.Ytljnhecdelimfaa.G
namespace Go.Proofs.Ytljnhecdelimfaa.G
open Go.ChangeShapes Go.WideShapes Go.ChangeAt Go.RowKit
set_option linter.unusedVariables false

theorem ByteRow.far {w w' : World} {a : Option Addr} {n : Nat} (h : ByteRow w.heap.size w a n) (hb : Below w.heap.size w w') : ByteRow w'.heap.size w' a n := by
  rcases h with h | ⟨b, o, e, h1, h2, h3⟩
  · exact .inl h
  · refine .inr ⟨b, o, e, Nat.lt_of_lt_of_le h1 hb.size, Nat.le_refl _, fun i hi => ?_⟩
    obtain ⟨x, hx, e⟩ := h3 i hi
    exact ⟨x, hx, (World.cell?_of_block (w := w) (hb.block b h1)).trans e⟩
set_option maxHeartbeats 8000000 in
set_option maxRecDepth 40000 in
theorem fn_store (n c n2 c2 : Nat) (a a2 : Option Addr) (w : World) (hr : ByteRow w.heap.size w a n) (hr2 : ByteRow w.heap.size w a2 n2) :
    Calls Try.prog 3 #[.slice a n c, .slice a2 n2 c2] w fun e w' => e = .returned (.bool true) ∧ Below w.heap.size w w' := by
  have HA : Hid _ := hr
  have HB : Hid _ := hr2
  clear hr hr2
  by_cases h1 : 1048576 < n
  · have h1' : (1048576 : Int) < n := by omega
    go_enter Try.func3, Try.ntmps3
    go_wp2_with fail
    go_ret
    exact ⟨rfl, Below.refl _ _⟩
  by_cases h2 : 1048576 < n2
  · have h1' : ¬ (1048576 : Int) < n := by omega
    have h2' : (1048576 : Int) < n2 := by omega
    go_enter Try.func3, Try.ntmps3
    go_wp2_with fail
    go_ret
    exact ⟨rfl, Below.refl _ _⟩
  have h1' : ¬ (1048576 : Int) < n := by omega
  have h2' : ¬ (1048576 : Int) < n2 := by omega
  go_enter Try.func3, Try.ntmps3
  go_wp2_with fail
  refine (storeOf_any n c a _ HA.out (by omega)).mono ?_
  rintro e w1 ⟨⟨l, now0, v, rfl, o1, s1, n1⟩, b1⟩
  obtain ⟨a1, c1, hv1, r1⟩ := OwnK.chRow o1
  subst hv1
  obtain ⟨now, hnow⟩ : ∃ x : Int, x = now0 := ⟨_, rfl⟩
  rw [← hnow] at s1 ⊢
  have hn13 : now ≤ 13 := by omega
  have hn0 : 0 ≤ now := by omega
  clear hnow n1
  have z1 := b1.size
  have hal := storeB_all s1
  have hlen := storeB_bd s1
  have HS : Hid (storeB l now = true) := s1
  have HBD : Hid (ChsBd 1048576 l) := ⟨by have := hal.1; omega, fun x hx => by have := hlen x hx; omega⟩
  have R1 : Hid (ChRow 0 w1.heap.size w1 a1 l) := ChRow.wide r1 (Nat.zero_le _) (Nat.le_refl _)
  have B1 : Hid _ := b1
  clear o1 s1 r1 b1 hal hlen
  obtain ⟨w2, hw2⟩ : ∃ x : World, x = w1.alloc (.cells #[.slice a1 l.length c1, .int .i64 now] 25) := ⟨_, rfl⟩
  have z2 : w1.heap.size + 1 ≤ w2.heap.size := by rw [hw2]; simp
  have b2 : Below w1.heap.size w1 w2 := by rw [hw2]; exact (Below.refl _ _).alloc (Nat.le_refl _) _
  have k2 : w2.heap[w1.heap.size]? = some (.cells #[.slice a1 l.length c1, .int .i64 now] 25 (0, 0)) := by rw [hw2]; exact heap_alloc_new _ _
  have K2 : Hid _ := k2
  have R2 : Hid _ := ChRow.up R1.out b2
  have B2 : Hid (Below w.heap.size w w2) := B1.out.trans (b2.mono z1)
  clear b2 R1 B1 k2
  go_wp2_with fail
  rw [← hw2]
  refine (putsOf_any n2 c2 a2 _ (ByteRow.far HB.out B2.out) (by omega)).mono ?_
  rintro e w3 ⟨⟨ps, pa, pc, rfl, p3, hp3⟩, b3⟩
  have z3 := b3.size
  obtain ⟨S, hS⟩ : ∃ S, S = w1.heap.size := ⟨_, rfl⟩
  rw [← hS] at K2 ⊢
  have hSl : S < w2.heap.size := by omega
  have K3 : Hid (w3.heap[S]? = some (.cells #[.slice a1 l.length c1, .int .i64 now] 25 (0, 0))) := (b3.block S hSl).trans K2.out
  have R3 : Hid (ChRow 0 w3.heap.size w3 a1 l) := ChRow.up R2.out b3
  have P3 : Hid (VeRow 0 w3.heap.size w3 pa ps) := p3
  have HP : Hid (putsB ps = true) := hp3
  have hpl : ps.length ≤ 400 := (putsB_all hp3).1
  have B3 : Hid (Below w.heap.size w w3) := B2.out.trans (b3.mono (by omega))
  have hS3 : S < w3.heap.size := by omega
  have hwS : w.heap.size ≤ S := by omega
  clear b3 hw2 hS K2 R2 B2 HA HB z1 z2 z3 hSl p3 hp3
  obtain ⟨m, nr, hst⟩ := stIs l now ps
  have HST : Hid (StIs l now ps m nr) := hst
  have HWA : Hid (WaIs l now ps m nr nr 0) := hst.wa HS.out HP.out (by omega)
  have HSM : Hid (storeB m nr = true) := hst.ok HS.out HP.out (by omega)
  have hh := hst.hour
  have HBM : Hid (ChsBd 1048576 m) := by
    have := store_small HSM.out
    exact ⟨by have := this.1; omega, fun x hx => by have := this.2 x hx; omega⟩
  clear hst
  have x3 := fun o => row_cell K3.out o
  go_wp2_with fail
  refine (impl_wa a1 pa c1 pc l ps now _ R3.out P3.out HBD.out (by omega) HWA.out).mono ?_
  rintro e w4 ⟨ax, cx, bs, rfl, o4, b4⟩
  have z4 := b4.size
  obtain ⟨w5, hw5⟩ : ∃ x : World, x = w4.alloc (.cells #[.slice ax m.length cx, .int .i64 nr] 25) := ⟨_, rfl⟩
  have z5 : w4.heap.size + 1 ≤ w5.heap.size := by rw [hw5]; simp
  have b5 : Below w4.heap.size w4 w5 := by rw [hw5]; exact (Below.refl _ _).alloc (Nat.le_refl _) _
  have k5 : w5.heap[w4.heap.size]? = some (.cells #[.slice ax m.length cx, .int .i64 nr] 25 (0, 0)) := by rw [hw5]; exact heap_alloc_new _ _
  have B5 : Hid (Below w3.heap.size w3 w5) := b4.trans (b5.mono z4)
  have K5 : Hid (w5.heap[S]? = some (.cells #[.slice a1 l.length c1, .int .i64 now] 25 (0, 0))) := (B5.out.block S hS3).trans K3.out
  have R5 : Hid (ChRow 0 w5.heap.size w5 a1 l) := ChRow.up R3.out B5.out
  have P5 : Hid (VeRow 0 w5.heap.size w5 pa ps) := VeRow.up P3.out B5.out
  have RX5 : Hid (ChRow 0 w5.heap.size w5 ax m) := ChRow.up (ChRow.wide (StHas.row o4) (Nat.zero_le _) (Nat.le_refl _)) b5
  have BB5 : Hid (Below w.heap.size w w5) := B3.out.trans (B5.out.mono (by omega))
  have KX5 : Hid _ := k5
  have x5 := fun o => row_cell K5.out o
  rw [hw5] at x5
  clear o4 b4 b5 k5 x3 K3 R3 B3 P3
  go_wp2_with fail
  rw [← hw5]
  refine (spec_wa a1 pa c1 pc l ps now _ R5.out P5.out HBD.out (by omega) HWA.out).mono ?_
  rintro e w6 ⟨az, cz, rfl, r6, b6⟩
  have z6 := b6.size
  obtain ⟨X, hX⟩ : ∃ X, X = w4.heap.size := ⟨_, rfl⟩
  rw [← hX] at KX5 ⊢
  have hX5 : X < w5.heap.size := by omega
  clear hX hw5 x5 z4 z5
  obtain ⟨V, hV⟩ : ∃ x : World, x = w6.alloc (.cells #[.slice az m.length cz, .int .i64 nr] 25) := ⟨_, rfl⟩
  have z7 : w6.heap.size + 1 ≤ V.heap.size := by rw [hV]; simp
  have b7 : Below w6.heap.size w6 V := by rw [hV]; exact (Below.refl _ _).alloc (Nat.le_refl _) _
  have k7 : V.heap[w6.heap.size]? = some (.cells #[.slice az m.length cz, .int .i64 nr] 25 (0, 0)) := by rw [hV]; exact heap_alloc_new _ _
  have B7 : Hid (Below w5.heap.size w5 V) := b6.trans (b7.mono z6)
  have T : Hid (∀ W, Below V.heap.size V W → W.heap[S]? = some (.cells #[.slice a1 l.length c1, .int .i64 now] 25 (0, 0)) ∧ W.heap[X]? = some (.cells #[.slice ax m.length cx, .int .i64 nr] 25 (0, 0)) ∧ W.heap[w6.heap.size]? = some (.cells #[.slice az m.length cz, .int .i64 nr] 25 (0, 0)) ∧ ChRow 0 W.heap.size W a1 l ∧ ChRow 0 W.heap.size W ax m ∧ ChRow 0 W.heap.size W az m ∧ VeRow 0 W.heap.size W pa ps ∧ Below w.heap.size w W) := fun W hW => by
    have hW5 : Below w5.heap.size w5 W := B7.out.trans (hW.mono (by omega))
    exact ⟨(hW5.block S (by have := B5.out.size; omega)).trans K5.out, (hW5.block X hX5).trans KX5.out, (hW.block _ (by omega)).trans k7, ChRow.up R5.out hW5, ChRow.up RX5.out hW5, ChRow.up (ChRow.up (ChRow.wide r6 (Nat.zero_le _) (Nat.le_refl _)) b7) hW, VeRow.up P5.out hW5, BB5.out.trans (hW5.mono (by have := BB5.out.size; omega))⟩
  have t0 := T.out V (Below.refl _ _)
  have x7 := fun o => row_cell t0.2.1 o
  have y7 := fun o => row_cell t0.2.2.1 o
  rw [hV] at x7 y7
  clear b6 b7 k7 r6
  go_wp2_with fail
  rw [← hV]
  obtain ⟨Z, hZ⟩ : ∃ Z, Z = w6.heap.size := ⟨_, rfl⟩
  rw [← hZ] at T ⊢
  clear hZ
  refine (same_store ax az cx cz m nr _ t0.2.2.2.2.1 t0.2.2.2.2.2.1 HBM.out).mono ?_
  clear t0 x7 y7 hV
  rintro e w8 ⟨rfl, b8⟩
  have Q8 : Hid (Below V.heap.size V w8) := b8
  have t8 := T.out _ b8
  have x8 := fun o => row_cell t8.2.1 o
  have T8 : Hid _ := t8.2.2.2.2.1
  clear t8 b8
  go_wp2_with fail
  refine (impl_storeOK ax cx m nr _ T8.out HBM.out).mono ?_
  rintro e w9 ⟨rfl, b9⟩
  rw [HSM.out]
  have Q9 : Hid (Below V.heap.size V w9) := Q8.out.trans (b9.mono Q8.out.size)
  have t9 := T.out _ Q9.out
  have x9 := fun o => row_cell t9.1 o
  have T9 : Hid _ := t9.2.2.2.1
  clear t9 b9 x8 T8 Q8
  go_wp2_with fail
  refine (impl_storeOK a1 c1 l now _ T9.out HBD.out).mono ?_
  rintro e w11 ⟨rfl, b11⟩
  rw [HS.out]
  have Q11 : Hid (Below V.heap.size V w11) := Q9.out.trans (b11.mono Q9.out.size)
  clear b11 x9 T9 Q9
  go_wp2_with fail
  go_loopw [13] (fun i w' => ∃ (k : Nat), k ≤ 16 ∧ i = .int .i64 k ∧ Hid (Below V.heap.size V w')) (fun i _ => 16 - (intOf i).toNat)
  case atStart => exact ⟨0, by omega, rfl, Q11⟩
  case round =>
    obtain ⟨wo, rfl⟩ : ∃ x, x = wr := ⟨_, rfl⟩
    obtain ⟨k, hk, rfl, HB⟩ := hrel
    obtain ⟨t1, t2, _, t4, t5, _, tp, t7⟩ := T.out _ HB.out
    have xs := fun o => row_cell t1 o
    have xx := fun o => row_cell t2 o
    have T4 : Hid _ := t4
    have T5 : Hid _ := t5
    have T7 : Hid _ := t7
    clear t1 t2 t4 t5 t7 tp
    by_cases hlt : k < 16
    case neg =>
      obtain rfl : k = 16 := by omega
      have HSA := same_self HS.out
      have HSF : Hid (sameR l now l now = true ∧ sameC l now l now = 0) := HSA
      clear HSA
      go_wp2_with fail
      refine (impl_sameAt a1 a1 c1 c1 l l now now _ T4.out T4.out HBD.out HBD.out).mono ?_
      rintro e w20 ⟨rfl, b20⟩
      rw [HSF.out.1, HSF.out.2]
      have Q20 : Hid (Below V.heap.size V w20) := HB.out.trans (b20.mono HB.out.size)
      obtain ⟨t1, t2, _, t4, t5, _, tp, t7⟩ := T.out _ Q20.out
      have xs20 := fun o => row_cell t1 o
      have xx20 := fun o => row_cell t2 o
      have T520 : Hid _ := t5
      have HH : Hid (hourN m nr now = 0) := hour_ok2 HSM.out hn0 hh.1
      clear b20 xs xx t1 t2 t4 t5 t7 tp
      go_wp2_with fail
      refine (impl_keys ax cx m nr now _ T520.out HBM.out).mono ?_
      rintro e w21 ⟨ak, ck, rfl, nk, b21⟩
      rw [HH.out]
      have Q21 : Hid (Below V.heap.size V w21) := Q20.out.trans (b21.mono Q20.out.size)
      obtain ⟨t1, t2, _, t4, t5, _, tp, t7⟩ := T.out _ Q21.out
      have xs21 := fun o => row_cell t1 o
      have xx21 := fun o => row_cell t2 o
      have T521 : Hid _ := t5
      have NK : Hid (NuRow 0 w21.heap.size w21 ak (keysR m nr now)) := NuRow.wide nk.row (Nat.zero_le _) (Nat.le_refl _)
      have hkl := keysR_len m nr now
      obtain ⟨ks, hks⟩ : ∃ ks, ks = keysR m nr now := ⟨_, rfl⟩
      rw [← hks] at NK hkl ⊢
      have HKS : Hid (ks = keysR m nr now) := hks
      clear b21 xs20 xx20 t1 t2 t4 t5 t7 tp nk hks
      go_wp2_with fail
      refine (spec_keys ax cx m nr now _ T521.out HBM.out).mono ?_
      rintro e w22 ⟨ad, cd, rfl, nd, b22⟩
      rw [HH.out]
      rw [← HKS.out] at nd ⊢
      have Q22 : Hid (Below V.heap.size V w22) := Q21.out.trans (b22.mono Q21.out.size)
      obtain ⟨t1, t2, _, t4, t5, _, tp, t7⟩ := T.out _ Q22.out
      have xs22 := fun o => row_cell t1 o
      have NK2 : Hid (NuRow 0 w22.heap.size w22 ak ks) := NuRow.up NK.out b22
      have ND2 : Hid (NuRow 0 w22.heap.size w22 ad ks) := NuRow.wide nd (Nat.zero_le _) (Nat.le_refl _)
      clear b22 xs21 xx21 t1 t2 t4 t5 t7 tp nd NK
      have fin : ∀ W, Below w22.heap.size w22 W → Below w.heap.size w W := fun W h => (T.out _ (Q22.out.trans (h.mono Q22.out.size))).2.2.2.2.2.2.2
      have FIN : Hid _ := fin
      clear fin
      have hcase : ((0 : Int) < ps.length ∧ now < nr) ∨ (¬ (0 : Int) < ps.length ∧ ¬ now < nr) := by
        rcases HST.out with ⟨h0, _, e⟩ | ⟨h0, _, e⟩
        · exact .inr ⟨by omega, by omega⟩
        · exact .inl ⟨by omega, by omega⟩
      rcases hcase with ⟨hA, hB⟩ | ⟨hA, hB⟩
      all_goals
        go_wp2_with fail
        refine (same_ints ak ad ck cd ks _ NK2.out ND2.out (by omega)).mono ?_
        rintro e w23 ⟨rfl, b23⟩
        have Q23 : Hid _ := FIN.out _ b23
        clear b23
        go_wp2_with fail
        go_ret
        exact ⟨rfl, Q23.out⟩
    have hk16 : (k : Int) < 16 := by omega
    have HA1 : Hid (askN m nr k nr = 0) := ask_ok2 HSM.out (by omega) (Int.le_refl _) hlt
    have HA2 : Hid (askN m nr k now = 0) := ask_ok2 HSM.out hn0 hh.1 hlt
    have HA3 : Hid (askN l now k now = 0) := ask_ok2 HS.out hn0 (Int.le_refl _) hlt
    have HV1 : Hid (readR m nr k nr = (lastW k ps).getD (readR l now k now)) := HST.out.now_ HS.out HP.out (by omega) hlt
    have HV2 : Hid (readR m nr k now = readR l now k now) := HST.out.old HS.out HP.out (by omega) hlt
    have HV3 : Hid (chgR m nr k now = (lastW k ps).isSome) := HST.out.chg HS.out HP.out (by omega) hlt
    obtain ⟨rv, hrv⟩ : ∃ x, x = readR l now k now := ⟨_, rfl⟩
    rw [← hrv] at HV1 HV2
    have HRV : Hid (rv = readR l now k now) := hrv
    clear hrv
    go_wp2_with fail
    refine (impl_readAt ax cx m nr k nr _ T5.out HBM.out).mono ?_
    rintro e w21 ⟨rfl, b21⟩
    rw [HA1.out, HV1.out]
    obtain ⟨dv, hdv⟩ : ∃ x, x = (lastW k ps).getD rv := ⟨_, rfl⟩
    rw [← hdv]
    have HDV : Hid (dv = (lastW k ps).getD rv) := hdv
    have Q21 : Hid (Below V.heap.size V w21) := HB.out.trans (b21.mono HB.out.size)
    obtain ⟨t1, t2, _, t4, t5, _, tp, t7⟩ := T.out _ Q21.out
    have xs21 := fun o => row_cell t1 o
    have xx21 := fun o => row_cell t2 o
    have T521 : Hid _ := t5
    clear t1 t2 t4 t5 t7 tp b21 xs xx hdv
    go_wp2_with fail
    refine (impl_readAt ax cx m nr k now _ T521.out HBM.out).mono ?_
    rintro e w22 ⟨rfl, b22⟩
    rw [HA2.out, HV2.out]
    have Q22 : Hid (Below V.heap.size V w22) := Q21.out.trans (b22.mono Q21.out.size)
    obtain ⟨t1, t2, _, t4, t5, _, tp, t7⟩ := T.out _ Q22.out
    have xs22 := fun o => row_cell t1 o
    have T422 : Hid _ := t4
    clear t1 t2 t4 t5 t7 tp b22 xs21 xx21
    go_wp2_with fail
    refine (impl_readAt a1 c1 l now k now _ T422.out HBD.out).mono ?_
    rintro e w23 ⟨rfl, b23⟩
    rw [HA3.out, ← HRV.out]
    have Q23 : Hid (Below V.heap.size V w23) := Q22.out.trans (b23.mono Q22.out.size)
    obtain ⟨t1, t2, _, t4, t5, _, tp, t7⟩ := T.out _ Q23.out
    have xs23 := fun o => row_cell t1 o
    have xx23 := fun o => row_cell t2 o
    have T523 : Hid _ := t5
    have TP23 : Hid _ := tp
    clear t1 t2 t4 t5 t7 tp b23 xs22
    go_wp2_with fail
    go_loopw [20, 21, 22] (fun d b i w' => ∃ (j : Nat) (dz : Int) (bz : Bool), j ≤ ps.length ∧ i = .int .i64 j ∧ d = .int .i64 dz ∧ b = .bool bz ∧ Hid (dz = (lastW k (ps.take j)).getD rv) ∧ Hid (bz = (lastW k (ps.take j)).isSome) ∧ w' = w23) (fun _ _ i _ => ps.length - (intOf i).toNat)
    case atStart => exact ⟨0, rv, false, by omega, rfl, rfl, rfl, by simp [Hid, lastW], by simp [Hid, lastW], rfl⟩
    case round =>
      obtain ⟨j, dz, bz, hj, rfl, rfl, rfl, HD, HBZ, rfl⟩ := hrel
      by_cases hjl : j < ps.length
      · obtain ⟨pb, po, hpa, _, hpb, p0, p1⟩ := VeRow.cells TP23.out j hjl
        subst hpa
        have hjl' : (j : Int) < ps.length := by omega
        have HLT : Hid (lastW k (ps.take (j + 1)) = if ps[j].ts = (k : Int) then some ps[j].v else lastW k (ps.take j)) := lastW_take hjl
        by_cases he : ps[j].ts = k
        · have HD2 : Hid (ps[j].v = (lastW k (ps.take (j + 1))).getD rv) := by rw [Hid, HLT.out, if_pos he]; rfl
          have HB2 : Hid (true = (lastW k (ps.take (j + 1))).isSome) := by rw [Hid, HLT.out, if_pos he]; rfl
          rw [he] at p0
          clear he
          go_wp2_with fail
          exact ⟨⟨j + 1, _, true, by omega, by go_num, rfl, rfl, HD2, HB2, trivial⟩, by simp [intOf]; omega⟩
        · have HD2 : Hid (dz = (lastW k (ps.take (j + 1))).getD rv) := by rw [Hid, HLT.out, if_neg he]; exact HD.out
          have HB2 : Hid (bz = (lastW k (ps.take (j + 1))).isSome) := by rw [Hid, HLT.out, if_neg he]; exact HBZ.out
          have he' : (ps[j].ts == (k : Int)) = false := by simpa using he
          go_wp2_with fail
          exact ⟨⟨j + 1, dz, bz, by omega, by go_num, rfl, rfl, HD2, HB2, trivial⟩, by simp [intOf]; omega⟩
      · obtain rfl : j = ps.length := by omega
        have hjl' : ¬ (ps.length : Int) < ps.length := by omega
        have e1 : dz = dv := by rw [HD.out, List.take_length, ← HDV.out]
        have HBW : Hid (chgR m nr k now = bz) := by rw [Hid, HV3.out, HBZ.out, List.take_length]
        subst e1
        clear HD HBZ
        go_wp2_with fail
        refine (impl_changedSince ax cx m nr k now _ T523.out HBM.out).mono ?_
        rintro e w24 ⟨rfl, b24⟩
        rw [HA2.out, HBW.out]
        have Q24 : Hid (Below V.heap.size V w24) := Q23.out.trans (b24.mono Q23.out.size)
        clear b24 xs23 xx23
        cases bz
        all_goals
          go_wp2_with fail
          exact ⟨⟨k + 1, by omega, by go_num, Q24⟩, by simp [intOf]; omega⟩
end Go.Proofs.Ytljnhecdelimfaa.G
namespace Go.Proofs.Ytljnhecdelimfaa.G
open Go.ChangeShapes Go.WideShapes Go.ChangeAt Go.RowKit
set_option linter.unusedVariables false

theorem byte_range {n : Int} (h : (Lit.int .u8 n).wf = true) : 0 ≤ n ∧ n < 256 := by
  have h1 : IntKind.u8.min = 0 := rfl
  have h2 : IntKind.u8.max = 255 := rfl
  simp only [Lit.wf, h1, h2, Bool.and_eq_true, decide_eq_true_eq] at h
  omega
theorem byte_cell_lt {W : World} {a : Addr} {v : Value} (h : W.cell? a = some v) : a.block < W.heap.size := by
  refine Nat.lt_of_not_le fun hle => ?_
  simp [World.cell?, Array.getElem?_eq_none hle] at h
theorem bytes_open {H : Type} {enc : TypeId × Value → H} {W : World} {fuel : Nat} {a0 : Option Addr} {len cap : Nat} {x : DataW H × List MemPlace}
    (hf : DataW.trod enc Try.prog W 0 (fun _ => true) true fuel 22 (Value.cells (.slice a0 len cap)).toList = some x) : ByteRow W.heap.size W a0 len := by
  have c5 : Try.prog.cellsOf 5 = 1 := by kernel_rfl
  rcases Deep.open_slice Try.underlying22 hf with ⟨hcs, _⟩ | ⟨a, len', cap', m, n, D, Pl, hcs, _, hl, hm, hmm, _, hx⟩
  · simp [Value.cells] at hcs
    obtain ⟨rfl, rfl, rfl⟩ := hcs
    exact .inl rfl
  · simp [Value.cells] at hcs
    obtain ⟨rfl, rfl, rfl⟩ := hcs
    simp only [if_true] at hmm
    rw [c5] at hx
    have key : ∀ i, i < len → ∃ c : Nat, c < 256 ∧ W.cell? ((a.add (i * 1)).add 0) = some (.int .u8 (c : Int)) := by
      intro i hi
      obtain ⟨cs', h1, h2⟩ := hx i (by omega)
      obtain ⟨_, _, hc⟩ := World.cells?_some h1
      obtain ⟨k, rfl, _, hw⟩ := DataW.trod_int Try.underlying5 h2
      obtain ⟨k0, k1⟩ := byte_range hw
      refine ⟨k.toNat, by omega, ?_⟩
      rw [Int.toNat_of_nonneg k0]
      exact hc 0 (by omega)
    by_cases h0 : len = 0
    · exact .inl h0
    · obtain ⟨b, off, spot⟩ := a
      have hspot : spot = none := by
        obtain ⟨c, _, e⟩ := key 0 (by omega)
        have := World.cell?_spot e
        simpa [Addr.add] using this
      subst hspot
      simp only [add_plain, Nat.mul_one, Nat.add_zero] at key
      obtain ⟨c, _, e⟩ := key 0 (by omega)
      exact .inr ⟨b, off, rfl, byte_cell_lt e, Nat.le_refl _, key⟩

end Go.Proofs.Ytljnhecdelimfaa.G
namespace Go.Proofs.Ytljnhecdelimfaa.fnStore
open Go.ChangeShapes Go.WideShapes Go.ChangeAt Go.RowKit
open Go.ChangeMaps (open_string shut_string)
open Go.Proofs.Ytljnhecdelimfaa.G
set_option linter.unusedVariables false

theorem own : ownKnob Try.prog.godebug = none := by kernel_rfl
theorem laidOut : laidOutB Try.prog = true := by kernel_rfl


set_option maxRecDepth 100000 in
theorem lifted (os : Os) (started : os.Started) (H : Type) (enc : TypeId × Value → H) :
    ReturnsInHanded {} Try.checked os 3 .any (Rows.fnStoreSpec.pre6 enc Try.prog Try.f3 Rows.fnStoreRow.domain false) (Rows.fnStoreSpec.post enc Try.prog Try.f3 false true false false) := by
  refine returnsInHanded_of_change (C := Try.checked) own started (by kernel_rfl) Try.func3
    (ChangeSpec.witness6 (enc := enc) (C := Try.checked) false ⟨#[], #[.slice none 0 0, .slice none 0 0], []⟩ 8 (by kernel_rfl) (by kernel_rfl) (by kernel_rfl) (by kernel_rfl)) ?_
  intro W base args ds gs before hval0 hW hcnd _
  have hval : ∀ (j : Nat) t v, Try.f3.params[j]? = some t → args[j]? = some v → Value.okWide Try.prog W .any base t v := hval0
  have hW' := hW
  obtain ⟨p, q, hA0, hV, rfl, hfz, hnd⟩ := hW
  have hA : DataW.TrodAll enc Try.prog W 0 (fun _ => true) true Try.f3.params.toList args.toList ds p := hA0
  rw [Try.params3] at hA hval
  obtain ⟨v0, vs0, d0, ds0, p0, q0, hargs, rfl, rfl, h0, r0⟩ := trodAll_cons hA
  obtain ⟨v1, vs1, d1, ds1, p1, q1, rfl, rfl, rfl, h1, r1⟩ := trodAll_cons r0
  obtain ⟨rfl, rfl, rfl⟩ := trodAll_nil r1
  obtain rfl : args = #[v0, v1] := by cases args; simp_all
  obtain ⟨rfl, rfl⟩ := trodVars_none hV
  have g0 := h0
  have lt0 : ∀ x ∈ p0, x.block < W.heap.size := by obtain ⟨m, hm⟩ := g0; exact DataW.trod_lt m _ _ _ hm
  obtain ⟨a0, n0, c0, rfl, hr0⟩ : ∃ (a : Option Addr) (n c : Nat), v0 = .slice a n c ∧ ByteRow W.heap.size W a n := by
    obtain ⟨a, len, cap, rfl⟩ := okWide_slice Try.underlying22 (hval 0 22 v0 rfl rfl)
    obtain ⟨fuel, hf⟩ := h0
    exact ⟨a, len, cap, rfl, bytes_open hf⟩
  have g1 := h1
  have lt1 : ∀ x ∈ p1, x.block < W.heap.size := by obtain ⟨m, hm⟩ := g1; exact DataW.trod_lt m _ _ _ hm
  obtain ⟨a1, n1, c1, rfl, hr1⟩ : ∃ (a : Option Addr) (n c : Nat), v1 = .slice a n c ∧ ByteRow W.heap.size W a n := by
    obtain ⟨a, len, cap, rfl⟩ := okWide_slice Try.underlying22 (hval 1 22 v1 rfl rfl)
    obtain ⟨fuel, hf⟩ := h1
    exact ⟨a, len, cap, rfl, bytes_open hf⟩
  clear hA0 hval0
  refine (fn_store n0 c0 n1 c1 a0 a1 W hr0 hr1).mono fun e W' ⟨he, bel⟩ => ?_
  subst he
  exact ⟨_, rfl, _, _, _, [], _, [], hW', trodAll_mk1 (shut_bool Try.underlying4 _), (trodAll_cons_mk (Below.trod laidOut (by kernel_rfl) (of_decide_eq_true (by kernel_rfl)) g0 bel lt0) (trodAll_cons_mk (Below.trod laidOut (by kernel_rfl) (of_decide_eq_true (by kernel_rfl)) g1 bel lt1) trodAll_mk0)), rfl, bel.frame _, fun h => by cases h⟩

theorem over : Rows.fnStoreRow.holds Try.pinned (OpenSpec.ofChange Rows.fnStoreSpec) :=
  OpenClaim.holds_of_wide 3 Try.f3 rfl rfl rfl rfl rfl rfl rfl ⟨rfl, rfl, rfl, rfl, rfl⟩ rfl rfl rfl rfl rfl (by kernel_rfl) Try.func3 (by kernel_rfl)
    (of_decide_eq_true (by kernel_rfl)) (by unfold Func.isWrapper; first | (rw [if_pos (by decide +kernel)]; kernel_rfl) | (rw [if_neg (by decide +kernel)]; exact ⟨rfl, rfl⟩))
    (fun os started H enc _ => lifted os started H enc)
end Go.Proofs.Ytljnhecdelimfaa.fnStore
namespace Go.Proofs.Ytljnhecdelimfaa
theorem fnStore_holds : Rows.FnStoreSaid := fnStore.over
#print axioms fnStore_holds
end Go.Proofs.Ytljnhecdelimfaa
