/- ReadAt, ChangedSince, SizeOf: what both sides compute. -/
import Derived.Test.YtbpkjpoicelgcaaStTells
import Derived.Test.YtbpkjpoicelgcaaStSpecTwo
namespace Go.Proofs.Ytbpkjpoicelgcaa.G
open Go.ChangeShapes Go.WideShapes Go.ChangeAt Go.RowKit
set_option linter.unusedVariables false

def readR (l : Chs) (now key ts : Int) : Int := if askN l now key ts = 0 then readV (chAt l key.toNat) ts else 0
def chgR (l : Chs) (now key ts : Int) : Bool := if askN l now key ts = 0 then chgB (chAt l key.toNat) ts else false
def sizeN (l : Chs) : Nat := (l.map List.length).sum
def sizeR (l : Chs) (now : Int) : Int := if storeB l now = true then sizeN l else 0
def badN (l : Chs) (now : Int) : Int := if storeB l now = true then 0 else 1
theorem sizeN_take {l : Chs} {k : Nat} (hk : k < l.length) : sizeN (l.take (k + 1)) = sizeN (l.take k) + l[k].length := by
  unfold sizeN; rw [List.take_succ_eq_append_getElem hk, List.map_append, List.sum_append]; simp only [List.map_cons, List.map_nil, List.sum_cons, List.sum_nil]; omega
theorem sizeN_le {l : Chs} (h : ∀ x ∈ l, x.length ≤ 1048576) : sizeN l ≤ l.length * 1048576 := by
  induction l with
  | nil => simp [sizeN]
  | cons x l ih =>
    have h1 := h x (by simp)
    have h2 := ih (fun y hy => h y (by simp [hy]))
    unfold sizeN at h2 ⊢
    simp only [List.map_cons, List.sum_cons, List.length_cons]
    omega
theorem ret_2 {a b c d : Int} (h1 : a = b) (h2 : c = d) : Ending.returned (.tuple #[.int .i64 a, .int .i64 c]) = .returned (.tuple #[.int .i64 b, .int .i64 d]) := by rw [h1, h2]
theorem ret_b2 {a b : Bool} {c d : Int} (h1 : a = b) (h2 : c = d) : Ending.returned (.tuple #[.bool a, .int .i64 c]) = .returned (.tuple #[.bool b, .int .i64 d]) := by rw [h1, h2]
set_option maxHeartbeats 1000000 in
theorem impl_readAt (a : Option Addr) (c : Nat) (l : Chs) (now key ts : Int) (w : World) (hr : ChRow 0 w.heap.size w a l) (hbd : ChsBd 1048576 l) :
    Calls Try.prog 11 #[.agg #[.slice a l.length c, .int .i64 now], .int .i64 key, .int .i64 ts] w fun e w' => e = .returned (.tuple #[.int .i64 (readR l now key ts), .int .i64 (askN l now key ts)]) ∧ Below w.heap.size w w' := by
  have B0 : Hid (Below w.heap.size w (w.alloc (.cells #[.slice a l.length c, .int .i64 now] 25))) := (Below.refl _ _).alloc (Nat.le_refl _) _
  have HR : Hid (∀ W0, Below w.heap.size w W0 → ChRow 0 W0.heap.size W0 a l) := fun W0 hB => ChRow.up hr hB
  have HE : Hid _ := hbd
  clear hr hbd
  go_enter Try.func11, Try.ntmps11
  go_wp2_with fail
  refine (impl_keyFault a c l now key ts _ (HR.out _ B0.out) HE.out).mono ?_
  rintro e w1 ⟨rfl, hb1⟩
  have c1 := fun o => hb1.cell (p := ⟨w.heap.size, o, none⟩) (by simp)
  have Q : Hid (Below w.heap.size w w1) := below_one hb1
  clear hb1
  by_cases h0 : askN l now key ts = 0
  · obtain ⟨hs, t1, t2, k1, k2⟩ := askN_zero h0
    have h16 := (storeB_all hs).1
    have HV : Hid (readV (chAt l key.toNat) ts = readR l now key ts) := by rw [Hid, readR, if_pos h0]
    have H0 : Hid (0 = askN l now key ts) := h0.symm
    rw [h0]
    obtain ⟨k, rfl⟩ : ∃ k : Nat, key = k := ⟨key.toNat, by omega⟩
    have hlt : k < l.length := by omega
    have HS : Hid _ := store_rise hs hlt
    have HX : Hid (l[k].length ≤ 1048576) := HE.out.2 l[k] (List.getElem_mem hlt)
    rw [Int.toNat_natCast, chAt_eq hlt] at HV
    have R3 : Hid (ChRow 0 w1.heap.size w1 a l) := HR.out _ Q.out
    clear h0 hs h16
    go_wp2_with fail
    refine (tells_at a c l now ts k _ R3.out HE.out hlt HS.out).mono ?_
    rintro e w2 ⟨rfl, hb2⟩
    have Q2 : Hid (Below w.heap.size w w2) := Q.out.trans (hb2.mono Q.out.size)
    generalize readV l[k] ts = z at *
    go_wp2_with fail
    go_ret2
    exact ⟨ret_2 HV.out H0.out, Q2.out⟩
  · have HN : Hid (0 = readR l now key ts) := by rw [Hid, readR, if_neg h0]
    have h0' : (askN l now key ts != 0) = true := by simpa using h0
    obtain ⟨z, hz⟩ : ∃ z, z = askN l now key ts := ⟨_, rfl⟩
    have HZ : Hid (z = askN l now key ts) := hz
    rw [← hz] at h0' ⊢
    clear h0 hz
    go_wp2_with fail
    go_ret2
    exact ⟨ret_2 HN.out HZ.out, Q.out⟩
end Go.Proofs.Ytbpkjpoicelgcaa.G
