/- A slice of bytes that came in, opened. -/
import Derived.Test.YtbpkjpoicelgcaaStKeys
import Derived.Test.YtbpkjpoicelgcaaStTxImplTwo
import Derived.Test.YtbpkjpoicelgcaaStPutsOK
import Derived.Test.YtbpkjpoicelgcaaStSpecTwo
import Derived.BigQuiet
import Derived.Deep.CutRange
import Derived.Deep.CutBlock
import Derived.Test.YtbpkjpoicelgcaaStTxFn
import Derived.Deep.Slices
namespace Go.Proofs.Ytbpkjpoicelgcaa.G
open Go.ChangeShapes Go.WideShapes Go.ChangeAt Go.RowKit
set_option linter.unusedVariables false

def keysR (l : Chs) (now ts : Int) : List Int := if hourN l now ts = 0 then keysK l ts 16 else []
theorem keysR_len (l : Chs) (now ts : Int) : (keysR l now ts).length ≤ 16 := by
  unfold keysR; split
  · exact keysK_len l ts 16
  · simp
theorem ask_hour0 (l : Chs) (now low : Int) : askN l now 0 low = hourN l now low := by
  unfold askN
  rw [if_pos (show keyB 0 = true from rfl)]
  split
  · rename_i h; exact h.symm
  · rfl
theorem own_below0 {w w' : World} {base size n : Nat} {e : TypeId} {v : Value} {xs : List Value} (h : w.ownsRow base e size v n xs) (hb : Below w.heap.size w w') : w'.ownsRow base e size v n xs := by
  refine ⟨h.1, ?_⟩
  rcases h.2 with h0 | ⟨g, cap, cur, rfl, h1, h2, h3⟩
  · exact .inl h0
  · exact .inr ⟨g, cap, cur, rfl, h1, (hb.block g (Array.getElem?_eq_some_iff.1 h2).1).trans h2, h3⟩
theorem own_ge {w : World} {base size n : Nat} {e : TypeId} {v : Value} {xs : List Value} (h : w.ownsRow base e size v n xs) : ∀ k, v.ownBlock = some k → base ≤ k ∧ k < w.heap.size := fun k hk => by
  rcases h.2 with ⟨e, _⟩ | ⟨g', cap, cur, e, h1, h2, _⟩
  · subst e; cases hk
  · subst e
    simp only [Value.ownBlock, Option.some.injEq] at hk
    subst hk
    exact ⟨h1, (Array.getElem?_eq_some_iff.1 h2).1⟩
theorem ret_k {a b : Value} {c d : Int} (h1 : a = b) (h2 : c = d) : Ending.returned (.tuple #[a, .int .i64 c]) = .returned (.tuple #[b, .int .i64 d]) := by rw [h1, h2]
end Go.Proofs.Ytbpkjpoicelgcaa.G
namespace Go.Proofs.Ytbpkjpoicelgcaa.G
open Go.ChangeShapes Go.WideShapes Go.ChangeAt Go.RowKit
set_option linter.unusedVariables false

set_option maxHeartbeats 2000000 in
theorem same_ints (a a' : Option Addr) (c c' : Nat) (x : List Int) (w : World) (hr : NuRow 0 w.heap.size w a x) (hr' : NuRow 0 w.heap.size w a' x) (hl : x.length ≤ 1048576) :
    Calls Try.prog 16 #[.slice a x.length c, .slice a' x.length c'] w fun e w' => e = .returned (.bool true) ∧ Below w.heap.size w w' := by
  have HR : Hid _ := hr
  have HR' : Hid _ := hr'
  clear hr hr'
  go_enter Try.func16, Try.ntmps16
  go_wp2_with fail
  go_loopw [5] (fun i w' => ∃ (k q : Nat), k ≤ x.length ∧ i = .int .i64 k ∧ w' = w.drewN q) (fun i _ => x.length - (intOf i).toNat)
  case atStart => exact ⟨0, 0, by omega, rfl, rfl⟩
  case round =>
    obtain ⟨k, q, hk, rfl, rfl⟩ := hrel
    by_cases hlt : k < x.length
    · obtain ⟨b, o, ha, _, hbl, d0⟩ := NuRow.cells HR.out k hlt
      obtain ⟨b', o', ha', _, hbl', d1⟩ := NuRow.cells HR'.out k hlt
      subst ha ha'
      have hlt' : (k : Int) < x.length := by omega
      go_wp2_with fail
      go_quiet (fail)
      go_wp2_with fail
      exact ⟨⟨k + 1, q + nq, by omega, by go_num, by simp⟩, by simp [intOf]; omega⟩
    · go_wp2_with fail
      go_ret
      exact ⟨rfl, below_drewN (Below.refl _ _) _⟩
set_option maxHeartbeats 1000000 in
theorem putsOf_any (n c : Nat) (a : Option Addr) (w : World) (hr : ByteRow w.heap.size w a n) (hn : n ≤ 1048576) :
    Calls Try.prog 8 #[.slice a n c] w fun e w' => (∃ (ps : List Ve) (a' : Option Addr) (c' : Nat), e = .returned (.slice a' ps.length c') ∧ VeRow 0 w'.heap.size w' a' ps ∧ putsB ps = true) ∧ Below w.heap.size w w' := by
  have HR : Hid _ := hr
  clear hr
  go_enter Try.func8, Try.ntmps8
  go_wp2_with fail
  refine (source_any n c a _ hn).mono ?_
  rintro e w1 ⟨rfl, s1, b1⟩
  have z1 := b1.size
  have HR1 : Hid (ByteRow w.heap.size w1 a n) := ByteRow.keep HR.out z1 (fun k hk => b1.block k hk)
  have HS1 : Hid _ := s1
  have B1 : Hid _ := b1
  clear s1 b1 HR
  go_wp2_with fail
  refine (puts_any w.heap.size n 0 a _ HS1.out HR1.out (by omega) hn).mono ?_
  rintro e w2 ⟨⟨ps, a', c', rfl, r2, hl2, hp2⟩, _, g2⟩
  have R2 : Hid _ := r2
  have HP2 : Hid (putsB ps = true) := putsB_yes (by omega) (fun i hi => hp2 ps[i] (List.getElem_mem hi))
  have B2 : Hid (Below w.heap.size w w2) := B1.out.grown g2 z1 (fun k hk => by simp only [Option.some.injEq] at hk; omega)
  clear r2 hp2 g2
  go_wp2_with fail
  go_ret
  exact ⟨⟨ps, a', c', rfl, R2.out, HP2.out⟩, B2.out⟩
end Go.Proofs.Ytbpkjpoicelgcaa.G
namespace Go.Proofs.Ytbpkjpoicelgcaa.G
open Go.ChangeShapes Go.WideShapes Go.ChangeAt Go.RowKit
set_option linter.unusedVariables false

set_option maxHeartbeats 4000000 in
theorem same_store (a a' : Option Addr) (c c' : Nat) (l : Chs) (now : Int) (w : World) (hr : ChRow 0 w.heap.size w a l) (hr' : ChRow 0 w.heap.size w a' l) (hbd : ChsBd 1048576 l) :
    Calls Try.prog 20 #[.agg #[.slice a l.length c, .int .i64 now], .agg #[.slice a' l.length c', .int .i64 now]] w fun e w' => e = .returned (.bool true) ∧ Below w.heap.size w w' := by
  obtain ⟨V, hV⟩ : ∃ V : World, V = (w.alloc (.cells #[.slice a l.length c, .int .i64 now] 25)).alloc (.cells #[.slice a' l.length c', .int .i64 now] 25) := ⟨_, rfl⟩
  have zV : w.heap.size + 2 ≤ V.heap.size := by rw [hV]; simp
  have bV : Below w.heap.size w V := by
    rw [hV]
    repeat (first | exact Below.refl _ _ | refine Below.alloc ?_ (by first | omega | (simp <;> omega)) _)
  have c0 : V.heap[w.heap.size]? = some (.cells #[.slice a l.length c, .int .i64 now] 25 (0, 0)) := by
    rw [hV, Below.heap_alloc _ _ _ (by simp <;> omega)]; exact heap_alloc_new _ _
  have c1 : V.heap[w.heap.size + 1]? = some (.cells #[.slice a' l.length c', .int .i64 now] 25 (0, 0)) := by
    have := heap_alloc_new (w.alloc (.cells #[.slice a l.length c, .int .i64 now] 25)) (.cells #[.slice a' l.length c', .int .i64 now] 25)
    rw [hV]; simpa using this
  have KV : Hid (∀ W, Below V.heap.size V W → (W.heap[w.heap.size]? = some (.cells #[.slice a l.length c, .int .i64 now] 25 (0, 0)) ∧ W.heap[w.heap.size + 1]? = some (.cells #[.slice a' l.length c', .int .i64 now] 25 (0, 0))) ∧ Below w.heap.size w W) := fun W h => ⟨⟨(h.block _ (by omega)).trans c0, (h.block _ (by omega)).trans c1⟩, bV.trans (h.mono (by omega))⟩
  have HR : Hid _ := hr
  have HR' : Hid _ := hr'
  have hl := hbd.1
  have HT : Hid _ := hbd.2
  have x0 := fun o => row_cell c0 o
  have x1 := fun o => row_cell c1 o
  clear hr hr' hbd c0 c1 bV
  go_enter Try.func20, Try.ntmps20
  go_upto_region 1 with fail
  rw [← hV]
  clear hV
  go_wp2_with fail
  go_loopw [5] (fun i w' => ∃ (k : Nat), k ≤ l.length ∧ i = .int .i64 k ∧ Hid (Below V.heap.size V w')) (fun i _ => l.length - (intOf i).toNat)
  case atStart => exact ⟨0, by omega, rfl, Below.refl _ _⟩
  case round =>
    obtain ⟨wo, rfl⟩ : ∃ x, x = wr := ⟨_, rfl⟩
    obtain ⟨k, hk, rfl, HB⟩ := hrel
    obtain ⟨⟨e0, e1⟩, q⟩ := KV.out _ HB.out
    have x5 := fun o => row_cell e0 o
    have x6 := fun o => row_cell e1 o
    have Q : Hid _ := q
    by_cases hlt : k < l.length
    case neg =>
      obtain rfl : k = l.length := by omega
      have hlt' : ¬ (l.length : Int) < l.length := by omega
      clear e0 e1 q x0 x1
      go_wp2_with fail
      go_ret
      exact ⟨rfl, Q.out⟩
    obtain ⟨b, o, a3, c3, ha, _, hbl, d0, _, r3⟩ := ChRow.cells (ChRow.keep HR.out (agree q (Nat.le_refl _))) k hlt
    obtain ⟨b', o', a4, c4, ha', _, hbl', d0', _, r4⟩ := ChRow.cells (ChRow.keep HR'.out (agree q (Nat.le_refl _))) k hlt
    subst ha ha'
    have hX : l[k].length ≤ 1048576 := HT.out l[k] (List.getElem_mem hlt)
    have R3 : Hid _ := r3
    have R4 : Hid _ := r4
    have hlt' : (k : Int) < l.length := by omega
    have D0 : Hid _ := d0
    have D1 : Hid _ := d0'
    have zo := HB.out.size
    clear e0 e1 q r3 r4 x0 x1
    go_wp2_with fail
    go_quiet (fail)
    go_wp2_with fail
    go_loopw [6] (fun i w' => ∃ (n : Nat), n ≤ l[k].length ∧ i = .int .i64 n ∧ Hid (Below wo.heap.size wo w')) (fun i _ => l[k].length - (intOf i).toNat)
    case atStart => exact ⟨0, by omega, rfl, below_drewN (Below.refl _ _) _⟩
    case round =>
      obtain ⟨wi, rfl⟩ : ∃ x, x = wr := ⟨_, rfl⟩
      obtain ⟨n, hn, rfl, HI⟩ := hrel
      have QI : Hid (Below V.heap.size V wi) := HB.out.trans (HI.out.mono (by omega))
      obtain ⟨⟨e0, e1⟩, _⟩ := KV.out _ QI.out
      have x7 := fun o => row_cell e0 o
      have x8 := fun o => row_cell e1 o
      have d5 := (HI.out.cell (p := ⟨b, o + k, none⟩) (show b < wo.heap.size by omega)).trans D0.out
      have d6 := (HI.out.cell (p := ⟨b', o' + k, none⟩) (show b' < wo.heap.size by omega)).trans D1.out
      by_cases hnt : n < l[k].length
      · have hnt' : (n : Int) < l[k].length := by omega
        obtain ⟨b2, o2, ha2, _, hbl2, f0, f1⟩ := VeRow.cells (VeRow.keep R3.out (agree HI.out (by omega))) n hnt
        obtain ⟨b3, o3, ha3, _, hbl3, f2, f3⟩ := VeRow.cells (VeRow.keep R4.out (agree HI.out (by omega))) n hnt
        subst ha2 ha3
        clear e0 e1 x5 x6 d0 d0'
        go_wp2_with fail
        go_quiet (fail)
        go_wp2_with fail
        exact ⟨⟨n + 1, by omega, by go_num, below_drewN HI.out _⟩, by simp [intOf]; omega⟩
      · obtain rfl : n = l[k].length := by omega
        have hnt' : ¬ (l[k].length : Int) < l[k].length := by omega
        clear e0 e1 x5 x6 d0 d0'
        go_wp2_with fail
        exact ⟨⟨k + 1, by omega, by go_num, QI⟩, by simp [intOf]; omega⟩
end Go.Proofs.Ytbpkjpoicelgcaa.G
namespace Go.Proofs.Ytbpkjpoicelgcaa.G
open Go.ChangeShapes Go.WideShapes Go.ChangeAt Go.RowKit
set_option linter.unusedVariables false

theorem byte_range {n : Int} (h : (Lit.int .u8 n).wf = true) : 0 ≤ n ∧ n < 256 := by
  have h1 : IntKind.u8.min = 0 := rfl
  have h2 : IntKind.u8.max = 255 := rfl
  simp only [Lit.wf, h1, h2, Bool.and_eq_true, decide_eq_true_eq] at h
  omega
theorem byte_cell_lt {W : World} {a : Addr} {v : Value} (h : W.cell? a = some v) : a.block < W.heap.size := by
  refine Nat.lt_of_not_le fun hle => ?_
  simp [World.cell?, Array.getElem?_eq_none hle] at h
theorem bytes_open {H : Type} {enc : TypeId × Value → H} {W : World} {fuel : Nat} {a0 : Option Addr} {len cap : Nat} {x : DataW H × List MemPlace}
    (hf : DataW.trod enc Try.prog W 0 (fun _ => true) true fuel 22 (Value.cells (.slice a0 len cap)).toList = some x) : ByteRow W.heap.size W a0 len := by
  have c5 : Try.prog.cellsOf 5 = 1 := by kernel_rfl
  rcases Deep.open_slice Try.underlying22 hf with ⟨hcs, _⟩ | ⟨a, len', cap', m, n, D, Pl, hcs, _, hl, hm, hmm, _, hx⟩
  · simp [Value.cells] at hcs
    obtain ⟨rfl, rfl, rfl⟩ := hcs
    exact .inl rfl
  · simp [Value.cells] at hcs
    obtain ⟨rfl, rfl, rfl⟩ := hcs
    simp only [if_true] at hmm
    rw [c5] at hx
    have key : ∀ i, i < len → ∃ c : Nat, c < 256 ∧ W.cell? ((a.add (i * 1)).add 0) = some (.int .u8 (c : Int)) := by
      intro i hi
      obtain ⟨cs', h1, h2⟩ := hx i (by omega)
      obtain ⟨_, _, hc⟩ := World.cells?_some h1
      obtain ⟨k, rfl, _, hw⟩ := DataW.trod_int Try.underlying5 h2
      obtain ⟨k0, k1⟩ := byte_range hw
      refine ⟨k.toNat, by omega, ?_⟩
      rw [Int.toNat_of_nonneg k0]
      exact hc 0 (by omega)
    by_cases h0 : len = 0
    · exact .inl h0
    · obtain ⟨b, off, spot⟩ := a
      have hspot : spot = none := by
        obtain ⟨c, _, e⟩ := key 0 (by omega)
        have := World.cell?_spot e
        simpa [Addr.add] using this
      subst hspot
      simp only [add_plain, Nat.mul_one, Nat.add_zero] at key
      obtain ⟨c, _, e⟩ := key 0 (by omega)
      exact .inr ⟨b, off, rfl, byte_cell_lt e, Nat.le_refl _, key⟩

end Go.Proofs.Ytbpkjpoicelgcaa.G
