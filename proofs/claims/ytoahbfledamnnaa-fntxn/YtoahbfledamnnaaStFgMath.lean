/- What is forgotten, in plain terms. -/
import Derived.Test.YtoahbfledamnnaaStTells
import Derived.Test.YtoahbfledamnnaaStSpecTwo
import Derived.Test.YtoahbfledamnnaaStUpMath
import Derived.Deep.AppendLies
import Derived.Deep.AppendSrc
namespace Go.Proofs.Ytoahbfledamnnaa.G
open Go.ChangeShapes Go.WideShapes Go.ChangeAt Go.RowKit
set_option linter.unusedVariables false

def readR (l : Chs) (now key ts : Int) : Int := if askN l now key ts = 0 then readV (chAt l key.toNat) ts else 0
def chgR (l : Chs) (now key ts : Int) : Bool := if askN l now key ts = 0 then chgB (chAt l key.toNat) ts else false
def sizeN (l : Chs) : Nat := (l.map List.length).sum
def sizeR (l : Chs) (now : Int) : Int := if storeB l now = true then sizeN l else 0
def badN (l : Chs) (now : Int) : Int := if storeB l now = true then 0 else 1
theorem sizeN_take {l : Chs} {k : Nat} (hk : k < l.length) : sizeN (l.take (k + 1)) = sizeN (l.take k) + l[k].length := by
  unfold sizeN; rw [List.take_succ_eq_append_getElem hk, List.map_append, List.sum_append]; simp only [List.map_cons, List.map_nil, List.sum_cons, List.sum_nil]; omega
theorem sizeN_le {l : Chs} (h : ∀ x ∈ l, x.length ≤ 1048576) : sizeN l ≤ l.length * 1048576 := by
  induction l with
  | nil => simp [sizeN]
  | cons x l ih =>
    have h1 := h x (by simp)
    have h2 := ih (fun y hy => h y (by simp [hy]))
    unfold sizeN at h2 ⊢
    simp only [List.map_cons, List.sum_cons, List.length_cons]
    omega
theorem ret_2 {a b c d : Int} (h1 : a = b) (h2 : c = d) : Ending.returned (.tuple #[.int .i64 a, .int .i64 c]) = .returned (.tuple #[.int .i64 b, .int .i64 d]) := by rw [h1, h2]
theorem ret_b2 {a b : Bool} {c d : Int} (h1 : a = b) (h2 : c = d) : Ending.returned (.tuple #[.bool a, .int .i64 c]) = .returned (.tuple #[.bool b, .int .i64 d]) := by rw [h1, h2]
set_option maxHeartbeats 1000000 in
theorem impl_readAt (a : Option Addr) (c : Nat) (l : Chs) (now key ts : Int) (w : World) (hr : ChRow 0 w.heap.size w a l) (hbd : ChsBd 1048576 l) :
    Calls Try.prog 11 #[.agg #[.slice a l.length c, .int .i64 now], .int .i64 key, .int .i64 ts] w fun e w' => e = .returned (.tuple #[.int .i64 (readR l now key ts), .int .i64 (askN l now key ts)]) ∧ Below w.heap.size w w' := by
  have B0 : Hid (Below w.heap.size w (w.alloc (.cells #[.slice a l.length c, .int .i64 now] 25))) := (Below.refl _ _).alloc (Nat.le_refl _) _
  have HR : Hid (∀ W0, Below w.heap.size w W0 → ChRow 0 W0.heap.size W0 a l) := fun W0 hB => ChRow.up hr hB
  have HE : Hid _ := hbd
  clear hr hbd
  go_enter Try.func11, Try.ntmps11
  go_wp2_with fail
  refine (impl_keyFault a c l now key ts _ (HR.out _ B0.out) HE.out).mono ?_
  rintro e w1 ⟨rfl, hb1⟩
  have c1 := fun o => hb1.cell (p := ⟨w.heap.size, o, none⟩) (by simp)
  have Q : Hid (Below w.heap.size w w1) := below_one hb1
  clear hb1
  by_cases h0 : askN l now key ts = 0
  · obtain ⟨hs, t1, t2, k1, k2⟩ := askN_zero h0
    have h16 := (storeB_all hs).1
    have HV : Hid (readV (chAt l key.toNat) ts = readR l now key ts) := by rw [Hid, readR, if_pos h0]
    have H0 : Hid (0 = askN l now key ts) := h0.symm
    rw [h0]
    obtain ⟨k, rfl⟩ : ∃ k : Nat, key = k := ⟨key.toNat, by omega⟩
    have hlt : k < l.length := by omega
    have HS : Hid _ := store_rise hs hlt
    have HX : Hid (l[k].length ≤ 1048576) := HE.out.2 l[k] (List.getElem_mem hlt)
    rw [Int.toNat_natCast, chAt_eq hlt] at HV
    have R3 : Hid (ChRow 0 w1.heap.size w1 a l) := HR.out _ Q.out
    clear h0 hs h16
    go_wp2_with fail
    refine (tells_at a c l now ts k _ R3.out HE.out hlt HS.out).mono ?_
    rintro e w2 ⟨rfl, hb2⟩
    have Q2 : Hid (Below w.heap.size w w2) := Q.out.trans (hb2.mono Q.out.size)
    generalize readV l[k] ts = z at *
    go_wp2_with fail
    go_ret2
    exact ⟨ret_2 HV.out H0.out, Q2.out⟩
  · have HN : Hid (0 = readR l now key ts) := by rw [Hid, readR, if_neg h0]
    have h0' : (askN l now key ts != 0) = true := by simpa using h0
    obtain ⟨z, hz⟩ : ∃ z, z = askN l now key ts := ⟨_, rfl⟩
    have HZ : Hid (z = askN l now key ts) := hz
    rw [← hz] at h0' ⊢
    clear h0 hz
    go_wp2_with fail
    go_ret2
    exact ⟨ret_2 HN.out HZ.out, Q.out⟩
end Go.Proofs.Ytoahbfledamnnaa.G
namespace Go.Proofs.Ytoahbfledamnnaa.G
open Go.ChangeShapes Go.WideShapes Go.ChangeAt Go.RowKit
set_option linter.unusedVariables false

theorem keyB_in (key : Int) : inS key 0 15 = keyS key := by unfold inS keyS; rw [Bool.eq_iff_iff]; simp; omega
set_option maxHeartbeats 1000000 in
theorem spec_read (a : Option Addr) (c : Nat) (l : Chs) (now ts : Int) (k : Nat) (w : World) (hr : ChRow 0 w.heap.size w a l) (hbd : ChsBd 1048576 l) (hlt : k < l.length) :
    Calls Try.prog 67 #[.agg #[.slice a l.length c, .int .i64 now], .int .i64 k, .int .i64 ts] w fun e w' => e = .returned (.int .i64 (readV l[k] ts)) ∧ Below w.heap.size w w' := by
  have B0 : Hid (Below w.heap.size w (w.alloc (.cells #[.slice a l.length c, .int .i64 now] 25))) := (Below.refl _ _).alloc (Nat.le_refl _) _
  have hX : l[k].length ≤ 1048576 := hbd.2 l[k] (List.getElem_mem hlt)
  have hl := hbd.1
  obtain ⟨b, o, a3, c3, ha, _, hbl, d0, _, r3⟩ := ChRow.cells (ChRow.up hr B0.out) k hlt
  subst ha
  have R3 : Hid _ := r3
  clear hr hbd r3
  have hlt' : (k : Int) < l.length := by omega
  go_enter Try.func67, Try.ntmps67
  go_wp2_with fail
  go_loop [7, 8] (fun v i => ∃ (m : Nat) (z : Int), m ≤ l[k].length ∧ i = .int .i64 m ∧ v = .int .i64 z ∧ Hid (z = readV (l[k].take m) ts)) (fun _ i => l[k].length - (intOf i).toNat)
  case atStart => exact ⟨0, 0, by omega, rfl, rfl, rfl⟩
  case round =>
    obtain ⟨m, z, hm, rfl, rfl, HZ⟩ := hrel
    by_cases hmt : m < l[k].length
    · obtain ⟨b2, o2, ha2, _, hbl2, f0, f1⟩ := VeRow.cells R3.out m hmt
      subst ha2
      have hmt' : (m : Int) < l[k].length := by omega
      have HT : Hid _ := readV_take (ts := ts) hmt
      by_cases hc : l[k][m].ts ≤ ts
      · have HZ2 : Hid (l[k][m].v = readV (l[k].take (m + 1)) ts) := by rw [Hid, HT.out, if_pos hc]
        clear HT
        go_wp2_with fail
        go_round
        case rel => exact ⟨m + 1, _, by omega, by go_num, rfl, HZ2⟩
        case measure => simp [intOf]; omega
      · have HZ2 : Hid (z = readV (l[k].take (m + 1)) ts) := by rw [Hid, HT.out, if_neg hc]; exact HZ.out
        clear HT
        go_wp2_with fail
        go_round
        case rel => exact ⟨m + 1, _, by omega, by go_num, rfl, HZ2⟩
        case measure => simp [intOf]; omega
    · have HZ2 : Hid (z = readV l[k] ts) := by have := HZ.out; rw [List.take_of_length_le (by omega)] at this; exact this
      go_wp2_with fail
      go_ret
      exact ⟨ret_i HZ2.out, B0.out⟩
set_option maxHeartbeats 1000000 in
theorem spec_changed (a : Option Addr) (c : Nat) (l : Chs) (now ts : Int) (k : Nat) (w : World) (hr : ChRow 0 w.heap.size w a l) (hbd : ChsBd 1048576 l) (hlt : k < l.length) :
    Calls Try.prog 61 #[.agg #[.slice a l.length c, .int .i64 now], .int .i64 k, .int .i64 ts] w fun e w' => e = .returned (.bool (chgB l[k] ts)) ∧ Below w.heap.size w w' := by
  have B0 : Hid (Below w.heap.size w (w.alloc (.cells #[.slice a l.length c, .int .i64 now] 25))) := (Below.refl _ _).alloc (Nat.le_refl _) _
  have hX : l[k].length ≤ 1048576 := hbd.2 l[k] (List.getElem_mem hlt)
  have hl := hbd.1
  obtain ⟨b, o, a3, c3, ha, _, hbl, d0, _, r3⟩ := ChRow.cells (ChRow.up hr B0.out) k hlt
  subst ha
  have R3 : Hid _ := r3
  clear hr hbd r3
  have hlt' : (k : Int) < l.length := by omega
  by_cases h0 : l[k].length = 0
  · have HN : Hid (false = chgB l[k] ts) := by simp [Hid, chgB, h0]
    have h0' : ¬ (0 : Int) < l[k].length := by omega
    clear h0
    go_enter Try.func61, Try.ntmps61
    go_wp2_with fail
    go_ret
    exact ⟨ret_b HN.out, B0.out⟩
  · obtain ⟨n, hn⟩ : ∃ n, l[k].length = n + 1 := ⟨l[k].length - 1, by omega⟩
    have hnl : n < l[k].length := by omega
    obtain ⟨b2, o2, ha2, _, hbl2, f0, f1⟩ := VeRow.cells R3.out n hnl
    subst ha2
    have HN : Hid (decide (ts < (l[k][n]'hnl).ts) = chgB l[k] ts) := by
      unfold Hid chgB
      rw [show l[k].length - 1 = n by omega, tsAt_eq (by omega), show decide (0 < l[k].length) = true by simpa using (by omega)]
      simp
    have h0' : (0 : Int) < l[k].length := by omega
    have e1 : (l[k].length : Int) - 1 = n := by omega
    have e2 : (n : Int) < l[k].length := by omega
    clear h0 hn
    go_enter Try.func61, Try.ntmps61
    go_wp2_with fail
    go_ret
    exact ⟨ret_b HN.out, B0.out⟩
end Go.Proofs.Ytoahbfledamnnaa.G
namespace Go.Proofs.Ytoahbfledamnnaa.G
open Go.ChangeShapes Go.WideShapes Go.ChangeAt Go.RowKit
set_option linter.unusedVariables false

def NuAt (rd : Nat → Option Value) (o : Nat) (x : Int) : Prop := rd o = some (.int .i64 x)
abbrev NuRow (lo hi : Nat) (w : World) (a : Option Addr) (l : List Int) : Prop := Row NuAt 1 lo hi w a l
theorem NuRow.keep {lo hi : Nat} {w w' : World} {a : Option Addr} {l : List Int} (h : NuRow lo hi w a l) (hk : Agree lo hi w w') : NuRow lo hi w' a l := Row.of h hk fun _ _ _ hx => hx
theorem NuRow.wide {lo hi lo' hi' : Nat} {w : World} {a : Option Addr} {l : List Int} (h : NuRow lo hi w a l) (e1 : lo' ≤ lo) (e2 : hi ≤ hi') : NuRow lo' hi' w a l := Row.out h e1 e2 fun _ _ _ hx => hx
theorem NuRow.up {w w' : World} {a : Option Addr} {l : List Int} (h : NuRow 0 w.heap.size w a l) (hb : Below w.heap.size w w') : NuRow 0 w'.heap.size w' a l := NuRow.wide (NuRow.keep h (agree hb (Nat.le_refl _))) (Nat.le_refl _) hb.size
theorem NuRow.cells {lo hi : Nat} {w : World} {a : Option Addr} {l : List Int} (h : NuRow lo hi w a l) (k : Nat) (hk : k < l.length) :
    ∃ b o, a = some ⟨b, o, none⟩ ∧ lo ≤ b ∧ b < hi ∧ w.cell? ⟨b, o + k, none⟩ = some (.int .i64 l[k]) := by
  obtain ⟨b, o, e1, e2, e3, h0⟩ := Row.at_ h k hk
  rw [Nat.mul_one] at h0
  exact ⟨b, o, e1, e2, e3, h0⟩
theorem nu_of {w : World} {N lo hi : Nat} {cs : Array Value} {T : TypeId} {l : List Int} (h : w.heap[N]? = some (.cells cs T (0, 0))) (h1 : lo ≤ N) (h2 : N < hi) (hc : ∀ i (h : i < l.length), cs[i]? = some (.int .i64 l[i])) : NuRow lo hi w (some ⟨N, 0, none⟩) l := by
  refine .inr ⟨N, 0, rfl, h1, h2, fun i x hx => ?_⟩
  obtain ⟨hi, rfl⟩ := List.getElem?_eq_some_iff.1 hx
  rw [row_rd h]
  show cs[0 + i * 1]? = _
  rw [Nat.mul_one, Nat.zero_add]
  exact hc i hi
set_option maxRecDepth 100000 in
theorem info_int : ∃ i, Try.prog.info? 3 = some i ∧ i.zero = some (.int .i64 0) ∧ i.size = 1 ∧ i.bytes = 8 := by
  refine ⟨_, rfl, ?_, ?_, ?_⟩ <;> kernel_rfl
/-- What all keys tell at an hour. -/
def vals (l : Chs) (ts : Int) : List Int := l.map fun x => readV x ts
theorem vals_len (l : Chs) (ts : Int) : (vals l ts).length = l.length := by simp [vals]
theorem vals_at {l : Chs} {ts : Int} {i : Nat} (h : i < (vals l ts).length) : (vals l ts)[i] = readV (l[i]'(by rw [vals_len] at h; exact h)) ts := by simp [vals]
end Go.Proofs.Ytoahbfledamnnaa.G
namespace Go.Proofs.Ytoahbfledamnnaa.G
open Go.ChangeShapes Go.WideShapes Go.ChangeAt Go.RowKit
set_option linter.unusedVariables false

def VeCell (cs : Array Value) (o : Nat) (x : Ve) : Prop := cs[o]? = some (.int .i64 x.ts) ∧ cs[o + 1]? = some (.int .i64 x.v)
/-- A block that holds a chain's versions, from its start. -/
def VeBlk (w : World) (b : Nat) (l : List Ve) : Prop := ∃ cs, w.heap[b]? = some (.cells cs 61 (0, 0)) ∧ l.length * 2 ≤ cs.size ∧ ∀ i x, l[i]? = some x → VeCell cs (i * 2) x
theorem VeBlk.move {w w' : World} {b : Nat} {l : List Ve} (h : VeBlk w b l) (e : w'.heap[b]? = w.heap[b]?) : VeBlk w' b l := by
  obtain ⟨cs, h1, h2, h3⟩ := h
  exact ⟨cs, e.trans h1, h2, h3⟩
theorem VeBlk.row {w : World} {b : Nat} {l : List Ve} {lo hi : Nat} (h : VeBlk w b l) (h1 : lo ≤ b) (h2 : b < hi) : VeRow lo hi w (some ⟨b, 0, none⟩) l := by
  obtain ⟨cs, g1, g2, g3⟩ := h
  refine .inr ⟨b, 0, rfl, h1, h2, fun i x hx => ?_⟩
  rw [row_rd g1, Nat.zero_add]
  exact g3 i x hx
theorem VeBlk.lt {w : World} {b : Nat} {l : List Ve} (h : VeBlk w b l) : b < w.heap.size := by
  obtain ⟨cs, g1, _⟩ := h
  exact (Array.getElem?_eq_some_iff.1 g1).1
def bput (bs : Nat → Nat) (k g : Nat) : Nat → Nat := fun i => if i = k then g else bs i
theorem bput_at (bs : Nat → Nat) (k g : Nat) : bput bs k g k = g := by simp [bput]
theorem bput_ne (bs : Nat → Nat) (k g : Nat) {i : Nat} (h : i ≠ k) : bput bs k g i = bs i := by simp [bput, h]
/-- The first k chains of a store are laid, each in a block of its own behind N. -/
def ChLaid (N : Nat) (w : World) (cs : Array Value) (l : Chs) (k : Nat) (bs : Nat → Nat) : Prop :=
  (∀ i x, i < k → l[i]? = some x → ∃ c, cs[i]? = some (.slice (some ⟨bs i, 0, none⟩) x.length c) ∧ x.length ≤ c ∧ N < bs i ∧ bs i < w.heap.size ∧ VeBlk w (bs i) x) ∧ (∀ i j, i < k → j < k → i ≠ j → bs i ≠ bs j)
theorem ChLaid.keep {N : Nat} {w w' : World} {cs : Array Value} {l : Chs} {k : Nat} {bs : Nat → Nat} (h : ChLaid N w cs l k bs) (hs : w.heap.size ≤ w'.heap.size) (hk : Agree (N + 1) w.heap.size w w') : ChLaid N w' cs l k bs := by
  refine ⟨fun i x hi hx => ?_, h.2⟩
  obtain ⟨c, h1, h2, h3, h4, h5⟩ := h.1 i x hi hx
  exact ⟨c, h1, h2, h3, by omega, h5.move (hk _ (by omega) h4)⟩
theorem ChLaid.put {N : Nat} {w : World} {cs : Array Value} {l : Chs} {k : Nat} {bs : Nat → Nat} {g c : Nat} (h : ChLaid N w cs l k bs) (hk : k < l.length) (hs : l.length ≤ cs.size) (hc : l[k].length ≤ c) (hg1 : N < g) (hg2 : g < w.heap.size) (hv : VeBlk w g l[k]) (hn : ∀ i, i < k → bs i ≠ g) :
    ChLaid N w (cs.setIfInBounds k (.slice (some ⟨g, 0, none⟩) l[k].length c)) l (k + 1) (bput bs k g) := by
  refine ⟨fun i x hi hx => ?_, fun i j hi hj hij => ?_⟩
  · by_cases hik : i = k
    · subst hik
      rw [List.getElem?_eq_getElem hk] at hx
      simp only [Option.some.injEq] at hx
      subst hx
      rw [bput_at]
      exact ⟨c, by simp [Array.getElem?_setIfInBounds]; omega, hc, hg1, hg2, hv⟩
    · obtain ⟨c', h1, h2, h3, h4, h5⟩ := h.1 i x (by omega) hx
      rw [bput_ne _ _ _ hik]
      exact ⟨c', by rw [Array.getElem?_setIfInBounds_ne (by omega)]; exact h1, h2, h3, h4, h5⟩
  · by_cases hik : i = k
    · subst hik; rw [bput_at, bput_ne _ _ _ (by omega)]; exact (hn j (by omega)).symm
    · by_cases hjk : j = k
      · subst hjk; rw [bput_ne _ _ _ hik, bput_at]; exact hn i (by omega)
      · rw [bput_ne _ _ _ hik, bput_ne _ _ _ hjk]; exact h.2 i j (by omega) (by omega) hij
/-- A store's chains that a call owns: all of them lie between two numbers of blocks, each that is not empty in a block of its own. -/
def StOwn (lo hi : Nat) (w : World) (a : Option Addr) (l : Chs) (bs : Nat → Nat) : Prop :=
  ∃ b cs, a = some ⟨b, 0, none⟩ ∧ lo ≤ b ∧ b < hi ∧ w.heap[b]? = some (.cells cs 58 (0, 0)) ∧ l.length ≤ cs.size ∧
    (∀ i x, l[i]? = some x → ∃ a3 c, cs[i]? = some (.slice a3 x.length c) ∧ x.length ≤ c ∧ (x ≠ [] → a3 = some ⟨bs i, 0, none⟩ ∧ lo ≤ bs i ∧ bs i < hi ∧ bs i ≠ b ∧ VeBlk w (bs i) x)) ∧
    (∀ i j x y, l[i]? = some x → l[j]? = some y → i ≠ j → x ≠ [] → y ≠ [] → bs i ≠ bs j)
theorem StOwn.of_laid {N : Nat} {w : World} {cs : Array Value} {l : Chs} {bs : Nat → Nat} (h : ChLaid N w cs l l.length bs) (hh : w.heap[N]? = some (.cells cs 58 (0, 0))) (hs : l.length ≤ cs.size) : StOwn N w.heap.size w (some ⟨N, 0, none⟩) l bs := by
  refine ⟨N, cs, rfl, Nat.le_refl _, (Array.getElem?_eq_some_iff.1 hh).1, hh, hs, fun i x hx => ?_, fun i j x y hx hy hij _ _ => h.2 i j (List.getElem?_eq_some_iff.1 hx).1 (List.getElem?_eq_some_iff.1 hy).1 hij⟩
  obtain ⟨c, h1, h2, h3, h4, h5⟩ := h.1 i x (List.getElem?_eq_some_iff.1 hx).1 hx
  exact ⟨_, c, h1, h2, fun _ => ⟨rfl, by omega, h4, by omega, h5⟩⟩
theorem StOwn.keep {lo hi : Nat} {w w' : World} {a : Option Addr} {l : Chs} {bs : Nat → Nat} (h : StOwn lo hi w a l bs) (hk : Agree lo hi w w') : StOwn lo hi w' a l bs := by
  obtain ⟨b, cs, e, h1, h2, h3, h4, h5, h6⟩ := h
  refine ⟨b, cs, e, h1, h2, (hk b h1 h2).trans h3, h4, fun i x hx => ?_, h6⟩
  obtain ⟨a3, c, g1, g2, g3⟩ := h5 i x hx
  refine ⟨a3, c, g1, g2, fun hne => ?_⟩
  obtain ⟨f1, f2, f3, f4, f5⟩ := g3 hne
  exact ⟨f1, f2, f3, f4, f5.move (hk _ f2 f3)⟩
theorem StOwn.wide {lo hi lo' hi' : Nat} {w : World} {a : Option Addr} {l : Chs} {bs : Nat → Nat} (h : StOwn lo hi w a l bs) (e1 : lo' ≤ lo) (e2 : hi ≤ hi') : StOwn lo' hi' w a l bs := by
  obtain ⟨b, cs, e, h1, h2, h3, h4, h5, h6⟩ := h
  refine ⟨b, cs, e, by omega, by omega, h3, h4, fun i x hx => ?_, h6⟩
  obtain ⟨a3, c, g1, g2, g3⟩ := h5 i x hx
  refine ⟨a3, c, g1, g2, fun hne => ?_⟩
  obtain ⟨f1, f2, f3, f4, f5⟩ := g3 hne
  exact ⟨f1, by omega, by omega, f4, f5⟩
theorem StOwn.row {lo hi : Nat} {w : World} {a : Option Addr} {l : Chs} {bs : Nat → Nat} (h : StOwn lo hi w a l bs) : ChRow lo hi w a l := by
  obtain ⟨b, cs, rfl, h1, h2, h3, h4, h5, h6⟩ := h
  refine .inr ⟨b, 0, rfl, h1, h2, fun i x hx => ?_⟩
  rw [row_rd h3]
  obtain ⟨a3, c, g1, g2, g3⟩ := h5 i x hx
  refine ⟨a3, c, by simpa using g1, g2, ?_⟩
  by_cases hne : x = []
  · exact .inl hne
  · obtain ⟨f1, f2, f3, f4, f5⟩ := g3 hne
    rw [f1]
    exact f5.row f2 f3
theorem put_ve {cs : Array Value} {l : List Ve} {k : Nat} (hs : cs.size = l.length * 2) (hk : k < l.length) (h : ∀ i x, i < k → l[i]? = some x → VeCell cs (i * 2) x) :
    ∀ i x, i < k + 1 → l[i]? = some x → VeCell ((cs.setIfInBounds (k * 2) (.int .i64 l[k].ts)).setIfInBounds (k * 2 + 1) (.int .i64 l[k].v)) (i * 2) x := by
  intro i x hi hx
  by_cases hik : i = k
  · subst hik
    rw [List.getElem?_eq_getElem hk] at hx
    simp only [Option.some.injEq] at hx
    subst hx
    refine ⟨?_, ?_⟩ <;> simp [Array.getElem?_setIfInBounds] <;> omega
  · obtain ⟨c0, c1⟩ := h i x (by omega) hx
    refine ⟨?_, ?_⟩
    · rw [Array.getElem?_setIfInBounds_ne (by omega), Array.getElem?_setIfInBounds_ne (by omega)]; exact c0
    · rw [Array.getElem?_setIfInBounds_ne (by omega), Array.getElem?_setIfInBounds_ne (by omega)]; exact c1

set_option maxRecDepth 100000 in
theorem info_Ve : ∃ i, Try.prog.info? 61 = some i ∧ i.zero = some (.agg #[.int .i64 0, .int .i64 0]) ∧ i.size = 2 ∧ i.bytes = 16 := by
  refine ⟨_, rfl, ?_, ?_, ?_⟩ <;> kernel_rfl
set_option maxRecDepth 100000 in
theorem info_Ch : ∃ i, Try.prog.info? 58 = some i ∧ i.zero = some (.slice none 0 0) ∧ i.size = 1 ∧ i.bytes = 24 := by
  refine ⟨_, rfl, ?_, ?_, ?_⟩ <;> kernel_rfl
end Go.Proofs.Ytoahbfledamnnaa.G
namespace Go.Proofs.Ytoahbfledamnnaa.G
open Go.ChangeShapes Go.WideShapes Go.ChangeAt Go.RowKit
set_option linter.unusedVariables false

/-- Nothing has turned but blocks from lo up and below hi, and new ones were made. -/
structure KeptS (lo hi : Nat) (w w' : World) : Prop where
  os : w'.os = w.os
  tape : w'.tape = w.tape
  output : w'.output = w.output
  size : w.heap.size ≤ w'.heap.size
  block : ∀ k, k < w.heap.size → ¬ (lo ≤ k ∧ k < hi) → w'.heap[k]? = w.heap[k]?
theorem KeptS.refl (lo hi : Nat) (w : World) : KeptS lo hi w w := ⟨rfl, rfl, rfl, Nat.le_refl _, fun _ _ _ => rfl⟩
theorem KeptS.trans {lo hi : Nat} {a b c : World} (h : KeptS lo hi a b) (k : KeptS lo hi b c) : KeptS lo hi a c :=
  ⟨k.os.trans h.os, k.tape.trans h.tape, k.output.trans h.output, Nat.le_trans h.size k.size, fun g hg hn => (k.block g (Nat.lt_of_lt_of_le hg h.size) hn).trans (h.block g hg hn)⟩
theorem KeptS.mono {lo hi lo' hi' : Nat} {a b : World} (h : KeptS lo hi a b) (e1 : lo' ≤ lo) (e2 : hi ≤ hi') : KeptS lo' hi' a b := ⟨h.os, h.tape, h.output, h.size, fun g hg hn => h.block g hg (fun hx => hn ⟨by omega, by omega⟩)⟩
theorem KeptS.of {lo hi : Nat} {a b : World} (h : Below a.heap.size a b) : KeptS lo hi a b := ⟨h.os, h.tape, h.output, h.size, fun g hg _ => h.block g hg⟩
theorem KeptS.set {lo hi : Nat} {a b : World} (h : KeptS lo hi a b) {p : Addr} (h1 : lo ≤ p.block) (h2 : p.block < hi) (v : Value) : KeptS lo hi a (b.setCell p v) := by
  have hb : Below (p.block) b (b.setCell p v) := (Below.refl _ _).setCell (Nat.le_refl _) v
  exact h.trans ⟨hb.os, hb.tape, hb.output, hb.size, fun g _ hn => Below.heap_setCell _ _ _ _ (fun e => hn (e ▸ ⟨h1, h2⟩))⟩
theorem KeptS.below {lo hi : Nat} {a b : World} (h : KeptS lo hi a b) {B : Nat} (hB : B ≤ a.heap.size) (hs : B ≤ lo) : Below B a b :=
  ⟨h.os, h.tape, h.output, h.size, fun g hg => h.block g (by omega) (fun hx => by omega)⟩
theorem KeptS.agree {lo hi lo' hi' : Nat} {a b : World} (h : KeptS lo hi a b) (hB : hi' ≤ a.heap.size) (hs : hi' ≤ lo ∨ hi ≤ lo') : Agree lo' hi' a b :=
  fun g h1 h2 => h.block g (by omega) (fun hx => by omega)
/-- A block whose first n versions bear the marks from K on. -/
def VeMk (w : World) (b : Nat) (K : Int) (n : Nat) : Prop := ∃ cs, w.heap[b]? = some (.cells cs 61 (0, 0)) ∧ n * 2 ≤ cs.size ∧ ∀ i : Nat, i < n → cs[i * 2]? = some (.int .i64 (K + 2 * i)) ∧ cs[i * 2 + 1]? = some (.int .i64 (K + 2 * i + 1))
theorem VeMk.move {w w' : World} {b : Nat} {K : Int} {n : Nat} (h : VeMk w b K n) (e : w'.heap[b]? = w.heap[b]?) : VeMk w' b K n := by
  obtain ⟨cs, h1, h2⟩ := h
  exact ⟨cs, e.trans h1, h2⟩
theorem mk_put {cs : Array Value} {K : Int} {k n : Nat} (hs : n * 2 ≤ cs.size) (hk : k < n) (h : ∀ i : Nat, i < k → cs[i * 2]? = some (.int .i64 (K + 2 * i)) ∧ cs[i * 2 + 1]? = some (.int .i64 (K + 2 * i + 1))) {v0 v1 : Int} (e0 : v0 = K + 2 * k) (e1 : v1 = K + 2 * k + 1) :
    ∀ i : Nat, i < k + 1 → ((cs.setIfInBounds (k * 2) (.int .i64 v0)).setIfInBounds (k * 2 + 1) (.int .i64 v1))[i * 2]? = some (.int .i64 (K + 2 * i)) ∧ ((cs.setIfInBounds (k * 2) (.int .i64 v0)).setIfInBounds (k * 2 + 1) (.int .i64 v1))[i * 2 + 1]? = some (.int .i64 (K + 2 * i + 1)) := by
  subst e0 e1
  intro i hi
  by_cases hik : i = k
  · subst hik
    refine ⟨?_, ?_⟩ <;> simp [Array.getElem?_setIfInBounds] <;> omega
  · obtain ⟨c0, c1⟩ := h i (by omega)
    refine ⟨?_, ?_⟩
    · rw [Array.getElem?_setIfInBounds_ne (by omega), Array.getElem?_setIfInBounds_ne (by omega)]; exact c0
    · rw [Array.getElem?_setIfInBounds_ne (by omega), Array.getElem?_setIfInBounds_ne (by omega)]; exact c1
/-- A store whose first k chains bear the marks. -/
def StMk (lo hi : Nat) (w : World) (a : Option Addr) (l : Chs) (bs : Nat → Nat) (K : Int) (k : Nat) : Prop :=
  ∃ b cs, a = some ⟨b, 0, none⟩ ∧ lo ≤ b ∧ b < hi ∧ w.heap[b]? = some (.cells cs 58 (0, 0)) ∧
    (∀ i x, l[i]? = some x → ∃ a3 c, cs[i]? = some (.slice a3 x.length c) ∧ (x ≠ [] → a3 = some ⟨bs i, 0, none⟩ ∧ lo ≤ bs i ∧ bs i < hi ∧ bs i ≠ b ∧ (i < k → VeMk w (bs i) (K + 2 * sizeN (l.take i)) x.length) ∧ (k ≤ i → VeBlk w (bs i) x))) ∧
    (∀ i j x y, l[i]? = some x → l[j]? = some y → i ≠ j → x ≠ [] → y ≠ [] → bs i ≠ bs j)
theorem StOwn.mk {lo hi : Nat} {w : World} {a : Option Addr} {l : Chs} {bs : Nat → Nat} (h : StOwn lo hi w a l bs) (K : Int) : StMk lo hi w a l bs K 0 := by
  obtain ⟨b, cs, e, h1, h2, h3, h4, h5, h6⟩ := h
  refine ⟨b, cs, e, h1, h2, h3, fun i x hx => ?_, h6⟩
  obtain ⟨a3, c, g1, g2, g3⟩ := h5 i x hx
  refine ⟨a3, c, g1, fun hne => ?_⟩
  obtain ⟨f1, f2, f3, f4, f5⟩ := g3 hne
  exact ⟨f1, f2, f3, f4, fun hi => by omega, fun _ => f5⟩
theorem StMk.keep {lo hi : Nat} {w w' : World} {a : Option Addr} {l : Chs} {bs : Nat → Nat} {K : Int} {k : Nat} (h : StMk lo hi w a l bs K k) (hk : Agree lo hi w w') : StMk lo hi w' a l bs K k := by
  obtain ⟨b, cs, e, h1, h2, h3, h5, h6⟩ := h
  refine ⟨b, cs, e, h1, h2, (hk b h1 h2).trans h3, fun i x hx => ?_, h6⟩
  obtain ⟨a3, c, g1, g3⟩ := h5 i x hx
  refine ⟨a3, c, g1, fun hne => ?_⟩
  obtain ⟨f1, f2, f3, f4, f5, f6⟩ := g3 hne
  exact ⟨f1, f2, f3, f4, fun hi => (f5 hi).move (hk _ f2 f3), fun hi => (f6 hi).move (hk _ f2 f3)⟩
theorem StMk.skip {lo hi : Nat} {w : World} {a : Option Addr} {l : Chs} {bs : Nat → Nat} {K : Int} {k : Nat} (h : StMk lo hi w a l bs K k) (hlt : k < l.length) (h0 : l[k] = []) : StMk lo hi w a l bs K (k + 1) := by
  obtain ⟨b, cs, e, h1, h2, h3, h5, h6⟩ := h
  refine ⟨b, cs, e, h1, h2, h3, fun i x hx => ?_, h6⟩
  obtain ⟨a3, c, g1, g3⟩ := h5 i x hx
  refine ⟨a3, c, g1, fun hne => ?_⟩
  obtain ⟨f1, f2, f3, f4, f5, f6⟩ := g3 hne
  have hik : i ≠ k := fun e => by subst e; rw [List.getElem?_eq_getElem hlt, h0] at hx; simp only [Option.some.injEq] at hx; exact hne hx.symm
  exact ⟨f1, f2, f3, f4, fun hi => f5 (by omega), fun hi => f6 (by omega)⟩
theorem StMk.step {lo hi : Nat} {w w' : World} {a : Option Addr} {l : Chs} {bs : Nat → Nat} {K : Int} {k : Nat} (h : StMk lo hi w a l bs K k) (hlt : k < l.length) (hne : l[k] ≠ []) (hm : VeMk w' (bs k) (K + 2 * sizeN (l.take k)) l[k].length) (hk : KeptS (bs k) (bs k + 1) w w') (hs : hi ≤ w.heap.size) : StMk lo hi w' a l bs K (k + 1) := by
  obtain ⟨b, cs, e, h1, h2, h3, h5, h6⟩ := h
  have hx0 : l[k]? = some l[k] := List.getElem?_eq_getElem hlt
  obtain ⟨_, _, _, g9⟩ := h5 k l[k] hx0
  have hbk := (g9 hne).2.2.2.1
  refine ⟨b, cs, e, h1, h2, (hk.block b (by omega) (by omega)).trans h3, fun i x hx => ?_, h6⟩
  obtain ⟨a3, c, g1, g3⟩ := h5 i x hx
  refine ⟨a3, c, g1, fun hne2 => ?_⟩
  obtain ⟨f1, f2, f3, f4, f5, f6⟩ := g3 hne2
  by_cases hik : i = k
  · subst hik
    rw [hx0] at hx
    simp only [Option.some.injEq] at hx
    subst hx
    exact ⟨f1, f2, f3, f4, fun _ => hm, fun hi => by omega⟩
  · have hd := h6 i k x l[k] hx hx0 hik hne2 hne
    have hb := hk.block (bs i) (by omega) (by omega)
    exact ⟨f1, f2, f3, f4, fun hi => (f5 (by omega)).move hb, fun hi => (f6 (by omega)).move hb⟩
theorem StMk.cells {lo hi : Nat} {w : World} {a : Option Addr} {l : Chs} {bs : Nat → Nat} {K : Int} {k : Nat} (h : StMk lo hi w a l bs K k) (i : Nat) (hlt : i < l.length) :
    ∃ b a3 c3, a = some ⟨b, 0, none⟩ ∧ w.cell? ⟨b, i, none⟩ = some (.slice a3 l[i].length c3) ∧ (l[i] ≠ [] → a3 = some ⟨bs i, 0, none⟩ ∧ lo ≤ bs i ∧ bs i < hi ∧ (i < k → VeMk w (bs i) (K + 2 * sizeN (l.take i)) l[i].length) ∧ (k ≤ i → VeBlk w (bs i) l[i])) := by
  obtain ⟨b, cs, e, h1, h2, h3, h5, h6⟩ := h
  obtain ⟨a3, c, g1, g3⟩ := h5 i l[i] (List.getElem?_eq_getElem hlt)
  refine ⟨b, a3, c, e, (row_cell h3 i).trans g1, fun hne => ?_⟩
  obtain ⟨f1, f2, f3, f4, f5, f6⟩ := g3 hne
  exact ⟨f1, f2, f3, f5, f6⟩
theorem sizeN_take_le (l : Chs) (k : Nat) : sizeN (l.take k) ≤ sizeN l := by
  have : sizeN l = sizeN (l.take k) + sizeN (l.drop k) := by
    unfold sizeN; rw [← List.sum_append, ← List.map_append, List.take_append_drop]
  omega
end Go.Proofs.Ytoahbfledamnnaa.G
namespace Go.Proofs.Ytoahbfledamnnaa.G
open Go.ChangeShapes Go.WideShapes Go.ChangeAt Go.RowKit
set_option linter.unusedVariables false

set_option maxRecDepth 100000 in
theorem info_bool : ∃ i, Try.prog.info? 4 = some i ∧ i.zero = some (.bool false) ∧ i.size = 1 ∧ i.bytes = 1 := by
  refine ⟨_, rfl, ?_, ?_, ?_⟩ <;> kernel_rfl
theorem wpList_append_run {P : Program} {ops : Array Oper} {rest : List Oper} {o : Oper} {a : Act} {Q : Exit → Act → World → Prop} {w : World} (hgd : o.guard = none) (s x : Operand) (t : TypeId)
    (ho : o.op = .call { callee := .builtin .append, args := #[s, x], argTypes := #[t, t] }) (sv xv rv : Value) (w' : World) (hs : a.eval s = sv) (hx : a.eval x = xv)
    (hr : (Builtin.append_ #[t, t] o.type #[sv, xv]).run P w = .ok rv w') (h : wpList P ops Q rest (a.put o.dst rv) w') : wpList P ops Q (o :: rest) a w := by
  refine wpList_plain hgd fun K hK => ?_
  unfold Oper.wp execOp
  simp only [ho, resolve, invoke, builtin, Sem.run_bind, Sem.run_pure, Result.andThen_ok, List.map_toArray, List.map_cons, List.map_nil, hs, hx, hr]
  exact hK _ _ h
def nuV (x : List Int) : List Value := x.map fun z => .int .i64 z
theorem nuV_snoc (x : List Int) (z : Int) : nuV (x ++ [z]) = nuV x ++ [.int .i64 z] := by simp [nuV]
theorem app_num (x : List Int) (z : Int) (v : Value) (base h : Nat) (W : World) (ho : W.ownsRow base 3 1 v x.length (nuV x)) (hu : W.heap[h]? = some (.cells #[.int .i64 z] 3 (0, 0))) (hk : x.length ≤ 1048576) (hb : base ≤ W.heap.size) :
    ∃ g cap W', (Builtin.append_ #[27, 27] 27 #[v, .slice (some ⟨h, 0, none⟩) 1 1]).run Try.prog W = .ok (.slice (some ⟨g, 0, none⟩) (x.length + 1) cap) W' ∧ W'.ownsRow base 3 1 (.slice (some ⟨g, 0, none⟩) (x.length + 1) cap) (x.length + 1) (nuV (x ++ [z])) ∧ W.grownBy W' v.ownBlock ∧ (v.ownBlock = some g ∨ g = W.heap.size) ∧ g < W'.heap.size := by
  obtain ⟨i, hi, hz, hsz, hby⟩ := info_int
  rw [nuV_snoc]
  exact run_append_lies (P := Try.prog) W 27 27 base 3 i _ 1 8 Try.underlying27 hi hz hsz hby rfl (by decide) v x.length (nuV x) ho ⟨h, 0, none⟩ 1 1 [.int .i64 z] rfl (fun j y hx => by
    have hj : j = 0 := by have := (List.getElem?_eq_some_iff.1 hx).1; simpa using this
    subst hj
    simp only [List.getElem?_cons_zero, Option.some.injEq] at hx
    subst hx
    rw [add_plain]
    exact row_cell hu 0) (fun y hy => by rw [List.mem_singleton.1 hy]; rfl) (by omega) (by unfold maxLen; omega) (by omega) hb W.heap.size rfl
/-- The keys below k that changed. -/
def keysK (l : Chs) (ts : Int) : Nat → List Int
  | 0 => []
  | k + 1 => if chgB (chAt l k) ts = true then keysK l ts k ++ [(k : Int)] else keysK l ts k
theorem keysK_len (l : Chs) (ts : Int) : ∀ k, (keysK l ts k).length ≤ k
  | 0 => Nat.le_refl _
  | k + 1 => by
    have := keysK_len l ts k
    unfold keysK
    split <;> simp <;> omega
/-- Numbers that a call owns. -/
def NuOwn (lo hi : Nat) (w : World) (a : Option Addr) (x : List Int) : Prop := x = [] ∨ ∃ g cs, a = some ⟨g, 0, none⟩ ∧ lo ≤ g ∧ g < hi ∧ w.heap[g]? = some (.cells cs 3 (0, 0)) ∧ x.length ≤ cs.size ∧ ∀ (i : Nat) (z : Int), x[i]? = some z → cs[i]? = some (.int .i64 z)
theorem NuOwn.of {base : Nat} {w : World} {v : Value} {x : List Int} (h : w.ownsRow base 3 1 v x.length (nuV x)) : ∃ a c, v = .slice a x.length c ∧ NuOwn base w.heap.size w a x := by
  rcases h.2 with ⟨rfl, h0⟩ | ⟨g, cap, cur, rfl, h1, h2, h3, h4, h5, h6⟩
  · have : x = [] := List.eq_nil_of_length_eq_zero h0
    subst this
    exact ⟨none, 0, rfl, .inl rfl⟩
  · refine ⟨_, cap, rfl, .inr ⟨g, cur, rfl, h1, (Array.getElem?_eq_some_iff.1 h2).1, h2, by omega, fun i z hz => ?_⟩⟩
    have hi := (List.getElem?_eq_some_iff.1 hz).1
    have : (nuV x)[i]? = some (.int .i64 z) := by simp [nuV, hz]
    rw [← h6, List.getElem?_take, if_pos (by omega)] at this
    simpa using this
theorem NuOwn.row {lo hi : Nat} {w : World} {a : Option Addr} {x : List Int} (h : NuOwn lo hi w a x) : NuRow lo hi w a x := by
  rcases h with h | ⟨g, cs, rfl, h1, h2, h3, h4, h5⟩
  · exact .inl h
  · exact nu_of h3 h1 h2 (fun i h => h5 i _ (List.getElem?_eq_getElem h))
theorem NuOwn.keep {lo hi : Nat} {w w' : World} {a : Option Addr} {x : List Int} (h : NuOwn lo hi w a x) (hk : Agree lo hi w w') : NuOwn lo hi w' a x := by
  rcases h with h | ⟨g, cs, rfl, h1, h2, h3, h4⟩
  · exact .inl h
  · exact .inr ⟨g, cs, rfl, h1, h2, (hk g h1 h2).trans h3, h4⟩
theorem NuOwn.wide {lo hi lo' hi' : Nat} {w : World} {a : Option Addr} {x : List Int} (h : NuOwn lo hi w a x) (e1 : lo' ≤ lo) (e2 : hi ≤ hi') : NuOwn lo' hi' w a x := by
  rcases h with h | ⟨g, cs, rfl, h1, h2, h3⟩
  · exact .inl h
  · exact .inr ⟨g, cs, rfl, by omega, by omega, h3⟩
/-- Numbers that bear the marks from K on. -/
def NuMk (lo hi : Nat) (w : World) (a : Option Addr) (n : Nat) (K : Int) : Prop := n = 0 ∨ ∃ g cs, a = some ⟨g, 0, none⟩ ∧ lo ≤ g ∧ g < hi ∧ w.heap[g]? = some (.cells cs 3 (0, 0)) ∧ n ≤ cs.size ∧ ∀ i : Nat, i < n → cs[i]? = some (.int .i64 (K + i))
theorem NuMk.keep {lo hi : Nat} {w w' : World} {a : Option Addr} {n : Nat} {K : Int} (h : NuMk lo hi w a n K) (hk : Agree lo hi w w') : NuMk lo hi w' a n K := by
  rcases h with h | ⟨g, cs, rfl, h1, h2, h3, h4⟩
  · exact .inl h
  · exact .inr ⟨g, cs, rfl, h1, h2, (hk g h1 h2).trans h3, h4⟩
end Go.Proofs.Ytoahbfledamnnaa.G
namespace Go.Proofs.Ytoahbfledamnnaa.G
open Go.ChangeShapes Go.WideShapes Go.ChangeAt Go.RowKit
set_option linter.unusedVariables false

section
variable {H : Type} {enc : TypeId × Value → H} {W : World}
theorem Nus_open {fuel : Nat} {cs : List Value} {x : DataW H × List MemPlace} (h : DataW.trod enc Try.prog W 0 (fun _ => true) true fuel 27 cs = some x) :
    ∃ a c, ∃ l : List Int, cs = [.slice a l.length c] ∧ l.length ≤ maxLen ∧ NuRow 0 W.heap.size W a l := by
  have ci : Try.prog.cellsOf 3 = 1 := by kernel_rfl
  obtain ⟨a, len, cap, rfl, hm, hr⟩ := sl_open Try.underlying27 (z := 1) (by kernel_rfl) (by omega) h
  rcases hr with rfl | ⟨n, b, o, rfl, rfl, hb, hx⟩
  · exact ⟨a, cap, [], rfl, Nat.zero_le _, .inl rfl⟩
  · obtain ⟨l, hl, hp⟩ := list_of (p := fun i x => NuAt (rdOf W b) (o + i * 1) x) (fun i hi => by
      obtain ⟨cs', y, hcl, hc, hd⟩ := hx i hi
      obtain ⟨g0, e0, _, _⟩ := DataW.trod_int Try.underlying3 hd
      subst e0
      exact ⟨g0, hc 0 (by omega)⟩)
    subst hl
    exact ⟨_, cap, l, rfl, hm, .inr ⟨b, o, rfl, Nat.zero_le _, hb, fun i x hx => hp i x hx⟩⟩
end
end Go.Proofs.Ytoahbfledamnnaa.G
namespace Go.Proofs.Ytoahbfledamnnaa.G
open Go.ChangeShapes Go.WideShapes Go.ChangeAt Go.RowKit
set_option linter.unusedVariables false

end Go.Proofs.Ytoahbfledamnnaa.G
namespace Go.Proofs.Ytoahbfledamnnaa.G
open Go.ChangeShapes Go.WideShapes Go.ChangeAt Go.RowKit
set_option linter.unusedVariables false

end Go.Proofs.Ytoahbfledamnnaa.G
namespace Go.Proofs.Ytoahbfledamnnaa.G
open Go.ChangeShapes Go.WideShapes Go.ChangeAt Go.RowKit
set_option linter.unusedVariables false

section
variable {H : Type} {enc : TypeId × Value → H} {W : World}
end
/-- A block that holds a chain's versions, from its start. -/
def PuBlk (w : World) (b : Nat) (l : List Ve) : Prop := ∃ cs, w.heap[b]? = some (.cells cs 43 (0, 0)) ∧ l.length * 2 ≤ cs.size ∧ ∀ i x, l[i]? = some x → VeCell cs (i * 2) x
theorem PuBlk.move {w w' : World} {b : Nat} {l : List Ve} (h : PuBlk w b l) (e : w'.heap[b]? = w.heap[b]?) : PuBlk w' b l := by
  obtain ⟨cs, h1, h2, h3⟩ := h
  exact ⟨cs, e.trans h1, h2, h3⟩
theorem PuBlk.row {w : World} {b : Nat} {l : List Ve} {lo hi : Nat} (h : PuBlk w b l) (h1 : lo ≤ b) (h2 : b < hi) : VeRow lo hi w (some ⟨b, 0, none⟩) l := by
  obtain ⟨cs, g1, g2, g3⟩ := h
  refine .inr ⟨b, 0, rfl, h1, h2, fun i x hx => ?_⟩
  rw [row_rd g1, Nat.zero_add]
  exact g3 i x hx
theorem PuBlk.lt {w : World} {b : Nat} {l : List Ve} (h : PuBlk w b l) : b < w.heap.size := by
  obtain ⟨cs, g1, _⟩ := h
  exact (Array.getElem?_eq_some_iff.1 g1).1
set_option maxRecDepth 100000 in
theorem info_PuX : ∃ i, Try.prog.info? 43 = some i ∧ i.zero = some (.agg #[.int .i64 0, .int .i64 0]) ∧ i.size = 2 ∧ i.bytes = 16 := by
  refine ⟨_, rfl, ?_, ?_, ?_⟩ <;> kernel_rfl
/-- A block whose first n versions bear the marks from K on. -/
def PuMk (w : World) (b : Nat) (K : Int) (n : Nat) : Prop := ∃ cs, w.heap[b]? = some (.cells cs 43 (0, 0)) ∧ n * 2 ≤ cs.size ∧ ∀ i : Nat, i < n → cs[i * 2]? = some (.int .i64 (K + 2 * i)) ∧ cs[i * 2 + 1]? = some (.int .i64 (K + 2 * i + 1))
theorem PuMk.move {w w' : World} {b : Nat} {K : Int} {n : Nat} (h : PuMk w b K n) (e : w'.heap[b]? = w.heap[b]?) : PuMk w' b K n := by
  obtain ⟨cs, h1, h2⟩ := h
  exact ⟨cs, e.trans h1, h2⟩
end Go.Proofs.Ytoahbfledamnnaa.G
namespace Go.Proofs.Ytoahbfledamnnaa.G
set_option linter.unusedVariables false

/-- A chain without a last version of that hour. -/
def cutC (t : Int) (x : List Ve) : List Ve := if 0 < x.length ∧ tsAt x (x.length - 1) = t then x.take (x.length - 1) else x
def wrC (t : Int) (x : List Ve) (v : Int) : List Ve := cutC t x ++ [⟨t, v⟩]
def wrS (t : Int) (l : Chs) (p : Ve) : Chs := l.set p.ts.toNat (wrC t (chAt l p.ts.toNat) p.v)
def wrAll (t : Int) (l : Chs) (ps : List Ve) : Chs := ps.foldl (wrS t) l
theorem wrS_len (t : Int) (l : Chs) (p : Ve) : (wrS t l p).length = l.length := by simp [wrS]
theorem wrAll_len (t : Int) : ∀ (ps : List Ve) (l : Chs), (wrAll t l ps).length = l.length
  | [], l => rfl
  | p :: ps, l => by
    show (wrAll t (wrS t l p) ps).length = _
    rw [wrAll_len t ps, wrS_len]
theorem wrAll_take (t : Int) (l : Chs) {ps : List Ve} {k : Nat} (h : k < ps.length) : wrAll t l (ps.take (k + 1)) = wrS t (wrAll t l (ps.take k)) ps[k] := by
  unfold wrAll; rw [List.take_succ_eq_append_getElem h, List.foldl_append]; rfl
theorem cutC_len (t : Int) (x : List Ve) : (cutC t x).length ≤ x.length := by unfold cutC; split <;> simp
theorem wrC_len (t : Int) (x : List Ve) (v : Int) : (wrC t x v).length ≤ x.length + 1 := by have := cutC_len t x; simp [wrC]; omega
theorem wrS_bd {t : Int} {l : Chs} {p : Ve} {m : Nat} (h : ∀ x ∈ l, x.length ≤ m) : ∀ x ∈ wrS t l p, x.length ≤ m + 1 := by
  intro x hx
  rcases List.mem_or_eq_of_mem_set hx with hx | hx
  · have := h x hx; omega
  · rw [hx]
    have h1 := wrC_len t (chAt l p.ts.toNat) p.v
    have h2 : (chAt l p.ts.toNat).length ≤ m := by
      unfold chAt
      by_cases hk : p.ts.toNat < l.length
      · rw [List.getElem?_eq_getElem hk]; exact h _ (List.getElem_mem hk)
      · rw [List.getElem?_eq_none (by omega)]; simp
    omega
theorem wrAll_bd {t : Int} : ∀ (ps : List Ve) {l : Chs} {m : Nat}, (∀ x ∈ l, x.length ≤ m) → ∀ x ∈ wrAll t l ps, x.length ≤ m + ps.length
  | [], l, m, h => h
  | p :: ps, l, m, h => by
    intro x hx
    have := wrAll_bd ps (wrS_bd (t := t) (p := p) h) x hx
    simp only [List.length_cons]; omega
end Go.Proofs.Ytoahbfledamnnaa.G
namespace Go.Proofs.Ytoahbfledamnnaa.G
set_option linter.unusedVariables false

def upN (ts : Int) : List Ve → Nat
  | [] => 0
  | x :: r => if x.ts ≤ ts then upN ts r + 1 else 0
theorem upN_le (ts : Int) : ∀ l, upN ts l ≤ l.length
  | [] => Nat.le_refl _
  | x :: r => by
    unfold upN
    have := upN_le ts r
    split <;> simp <;> omega
theorem upN_lt (ts : Int) : ∀ (l : List Ve) (i : Nat), i < upN ts l → tsAt l i ≤ ts
  | [], i, h => by simp [upN] at h
  | x :: r, i, h => by
    unfold upN at h
    split at h
    · rename_i hx
      cases i with
      | zero => simpa [tsAt] using hx
      | succ i =>
        have := upN_lt ts r i (by omega)
        simpa [tsAt] using this
    · omega
theorem upN_at (ts : Int) : ∀ (l : List Ve), upN ts l < l.length → ts < tsAt l (upN ts l)
  | [], h => by simp at h
  | x :: r, h => by
    unfold upN at h ⊢
    split
    · rename_i hx
      rw [if_pos hx] at h
      have := upN_at ts r (by simpa using h)
      simpa [tsAt] using this
    · rename_i hx
      simp [tsAt]; omega
theorem upTo_upN {l : List Ve} (h : Rise l) (ts : Int) : UpTo l ts (upN ts l) := by
  refine ⟨upN_le ts l, upN_lt ts l, fun i h1 h2 => ?_⟩
  have := upN_at ts l (by omega)
  by_cases e : i = upN ts l
  · rw [e]; exact this
  · have := h (upN ts l) i (by omega) h2; omega
/-- How many versions of a chain go. -/
def goN (low : Int) (l : List Ve) : Nat := upN low l - 1
def fgC (low : Int) (l : List Ve) : List Ve := l.drop (goN low l)
def fgS (low : Int) (l : Chs) : Chs := l.map (fgC low)
theorem goN_le (low : Int) (l : List Ve) : goN low l ≤ l.length := by have := upN_le low l; unfold goN; omega
theorem fgC_len (low : Int) (l : List Ve) : (fgC low l).length = l.length - goN low l := by simp [fgC]
theorem fgS_len (low : Int) (l : Chs) : (fgS low l).length = l.length := by simp [fgS]
theorem fgS_at {low : Int} {l : Chs} {i : Nat} (h : i < l.length) : (fgS low l)[i]? = some (fgC low l[i]) := by simp [fgS, h]
theorem fgS_bd {low : Int} {l : Chs} {m : Nat} (h : ChsBd m l) : ChsBd m (fgS low l) := by
  refine ⟨by rw [fgS_len]; exact h.1, fun x hx => ?_⟩
  obtain ⟨y, hy, rfl⟩ := List.mem_map.1 hx
  have := h.2 y hy
  rw [fgC_len]; omega
/-- All that go. -/
def goS (low : Int) (l : Chs) : Nat := (l.map (goN low)).sum
theorem go_size (low : Int) (l : Chs) : sizeN l = sizeN (fgS low l) + goS low l := by
  induction l with
  | nil => rfl
  | cons x l ih =>
    have h1 := goN_le low x
    have h2 := fgC_len low x
    simp only [sizeN, fgS, goS, List.map_cons, List.sum_cons] at ih ⊢
    omega
theorem goS_take {low : Int} {l : Chs} {k : Nat} (hk : k < l.length) : goS low (l.take (k + 1)) = goS low (l.take k) + goN low l[k] := by
  unfold goS; rw [List.take_succ_eq_append_getElem hk, List.map_append, List.sum_append]; simp only [List.map_cons, List.map_nil, List.sum_cons, List.sum_nil]; omega
theorem goN_step {low : Int} {l : List Ve} (h : Rise l) {k : Nat} (hk : k ≤ goN low l) (h1 : k + 1 < l.length) : (tsAt l (k + 1) ≤ low) ↔ k + 1 ≤ goN low l := by
  have hu := upTo_upN h low
  constructor
  · intro ht
    by_cases e : k + 1 < upN low l
    · unfold goN; omega
    · have := hu.2.2 (k + 1) (by omega) h1; omega
  · intro hg
    exact hu.2.1 (k + 1) (by unfold goN at hg; omega)
end Go.Proofs.Ytoahbfledamnnaa.G
