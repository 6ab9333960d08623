/- A token's text, and that the Go texts of TokenText, on both sides, tell it. -/
import Derived.Test.YtjbogjoadcikhaaDoorDigits
import Derived.Test.YtjbogjoadcikhaaDoorShelf
namespace Go.Proofs.YtjbogjoadcikhaaDoor
open Go.ChangeShapes Go.WideShapes Go.ChangeAt Go.RowKit
set_option linter.unusedVariables false

def itoaS (b : Int) : ByteArray := ⟨(Lib.itoa b).toArray⟩
def textS (a b : Int) (s : ByteArray) : ByteArray := if a = 2 then itoaS b else if a = 3 then (⟨#[36]⟩ : ByteArray) ++ s else s

/-- The library's table of powers, whatever is done above the globals. -/
def Pow (w : World) : Prop := Lib.TabIs Tryd.prog w "internal/strconv.uint64pow10" .u64 Lib.pow10Tab
theorem gPow : Tryd.prog.globalNamed "internal/strconv.uint64pow10" = some 1 := by kernel_rfl
theorem Pow.pos {w : World} (h : Pow w) : 1 < w.heap.size := by
  unfold Pow Lib.TabIs World.var? at h
  rw [gPow] at h
  simp only [Option.bind_some] at h
  split at h
  · rename_i hh; exact (Array.getElem?_eq_some_iff.1 hh).1
  · cases h
theorem Pow.below {w w' : World} {B : Nat} (h : Pow w) (hb : Below B w w') (hB : 1 < B) : Pow w' := by
  unfold Pow Lib.TabIs World.var? at h ⊢
  rw [gPow] at h ⊢
  simp only [Option.bind_some] at h ⊢
  rw [hb.block 1 hB]
  exact h
theorem grow_below (w : World) (k : Nat) (os : Array Obj) : Below w.heap.size w (Sort.grow (w.drewN k) os) := by
  refine ⟨rfl, rfl, rfl, ?_, ?_⟩
  · show w.heap.size ≤ ((w.drewN k).heap ++ os).size
    have : (w.drewN k).heap = w.heap := rfl
    rw [this]; simp
  · intro i hi
    show ((w.drewN k).heap ++ os)[i]? = w.heap[i]?
    have : (w.drewN k).heap = w.heap := rfl
    rw [this, Array.getElem?_append_left hi]

theorem itoa_any (n : Int) (w : World) (h0 : -9223372036854775807 ≤ n) (h1 : n ≤ 9223372036854775807) (hp : Pow w) :
    Calls Tryd.prog 18 #[.int .i64 n] w fun e w' => e = .returned (.string (itoaS n)) ∧ Below w.heap.size w w' := by
  refine (Tryd.strconv_Itoa n (by omega) h1 w hp).mono ?_
  rintro e w1 ⟨rfl, k, os, rfl⟩
  exact ⟨rfl, grow_below w k os⟩
theorem digsS_any (n : Int) (w : World) (h0 : -9223372036854775807 ≤ n) (h1 : n ≤ 9223372036854775807) :
    Calls Tryd.prog 33 #[.int .i64 n] w fun e w' => e = .returned (.string (itoaS n)) ∧ Below w.heap.size w w' := digs_any n w h0 h1
theorem clone_any (s : ByteArray) (w : World) (hs : s.size ≤ 1048576) :
    Calls Tryd.prog 19 #[.string s] w fun e w' => e = .returned (.string s) ∧ Below w.heap.size w w' := by
  go_enter Tryd.func19, Tryd.ntmps19
  go_wp2_with (go_at_call 35; refine (Tryd.stringslite_Clone s _ (by omega)).mono ?_; rintro e w1 ⟨rfl, hb1⟩)
  go_ret
  exact ⟨rfl, hb1⟩

set_option maxHeartbeats 1000000 in
theorem spec_text (a b : Int) (s : ByteArray) (w : World) (hs : s.size ≤ 1048576) (h0 : -9223372036854775807 ≤ b) (h1 : b ≤ 9223372036854775807) :
    Calls Tryd.prog 16 #[.agg #[.int .i64 a, .int .i64 b, .string s]] w fun e w' => e = .returned (.string (textS a b s)) ∧ Below w.heap.size w w' := by
  by_cases h2 : a = 2
  · subst h2
    have H : Hid (itoaS b = textS 2 b s) := by unfold Hid textS; rw [if_pos rfl]
    go_enter Tryd.func16, Tryd.ntmps16
    go_wp2_with (go_at_call 33; refine (digsS_any b _ h0 h1).mono ?_; rintro e w1 ⟨rfl, hb1⟩)
    go_ret
    exact ⟨ret_str H.out, ((Below.refl _ _).alloc (Nat.le_refl _) _).trans (hb1.mono (by simp))⟩
  have g2 : (a == 2) = false := by rw [beq_eq_false_iff_ne]; omega
  by_cases h3 : a = 3
  · subst h3
    have H : Hid ((⟨#[36]⟩ : ByteArray) ++ s = textS 3 b s) := by unfold Hid textS; rw [if_neg h2, if_pos rfl]
    have hno : ¬ (9223372036854775807 < (⟨#[36]⟩ : ByteArray).size + s.size) := by have : (⟨#[36]⟩ : ByteArray).size = 1 := rfl; omega
    clear h2 g2
    go_enter Tryd.func16, Tryd.ntmps16
    go_wp2_with fail
    go_ret
    exact ⟨ret_str H.out, (Below.refl _ _).alloc (Nat.le_refl _) _⟩
  have g3 : (a == 3) = false := by rw [beq_eq_false_iff_ne]; omega
  have H : Hid (s = textS a b s) := by unfold Hid textS; rw [if_neg h2, if_neg h3]
  clear h2 h3
  go_enter Tryd.func16, Tryd.ntmps16
  go_wp2_with fail
  go_ret
  exact ⟨ret_str H.out, (Below.refl _ _).alloc (Nat.le_refl _) _⟩

theorem tok_int {a b : Int} {s : ByteArray} (h : tokB a b s = true) : -2147483648 ≤ b ∧ b ≤ 2147483647 := by
  unfold tokB at h
  split at h
  · simp at h; omega
  · split at h
    · simp [intB] at h; omega
    · split at h
      · simp at h; omega
      · cases h

set_option maxHeartbeats 1000000 in
theorem impl_tokText_no (a b : Int) (s : ByteArray) (w : World) (hs : s.size ≤ 1048576) (hk : tokB a b s = false) :
    Calls Tryd.prog 7 #[.agg #[.int .i64 a, .int .i64 b, .string s]] w fun e w' => e = .returned (.tuple #[.string ⟨#[]⟩, .int .i64 1]) ∧ Below w.heap.size w w' := by
  go_enter Tryd.func7, Tryd.ntmps7
  go_wp2_with (go_at_call 8; refine (impl_tokOK a b s _ (by unfold maxLen; omega)).mono ?_; rintro e w1 ⟨rfl, hb1⟩)
  go_ret2
  exact ⟨rfl, ((Below.refl _ _).alloc (Nat.le_refl _) _).trans (hb1.mono (by simp))⟩

set_option maxHeartbeats 1000000 in
theorem impl_tokText_yes (a b : Int) (s : ByteArray) (w : World) (hs : s.size ≤ 1048576) (hp : Pow w) (hk : tokB a b s = true) :
    Calls Tryd.prog 7 #[.agg #[.int .i64 a, .int .i64 b, .string s]] w fun e w' => e = .returned (.tuple #[.string (textS a b s), .int .i64 0]) ∧ Below w.heap.size w w' := by
  have hi := tok_int hk
  by_cases h2 : a = 2
  · subst h2
    go_enter Tryd.func7, Tryd.ntmps7
    go_wp2_with fail
    refine (impl_tokOK 2 b s _ (by unfold maxLen; omega)).mono ?_
    rintro e w1 ⟨rfl, hb1⟩
    obtain ⟨hc1, hf1⟩ := bcell hb1
    have hz1 : w.heap.size + 1 ≤ w1.heap.size := by have := hb1.size; simpa using this
    have q1 : Below w.heap.size w w1 := ((Below.refl _ _).alloc (Nat.le_refl _) _).trans (hb1.mono (by simp))
    have HP : Pow w1 := hp.below q1 hp.pos
    go_wp2_with fail
    refine (itoa_any b _ (by omega) (by omega) HP).mono ?_
    rintro e w2 ⟨rfl, hb2⟩
    go_wp2_with fail
    go_ret2
    exact ⟨by unfold textS; rw [if_pos rfl]; rfl, q1.trans (hb2.mono q1.size)⟩
  have g2 : (a == 2) = false := by rw [beq_eq_false_iff_ne]; omega
  by_cases h3 : a = 3
  · subst h3
    have hno : ¬ (9223372036854775807 < (⟨#[36]⟩ : ByteArray).size + s.size) := by have : (⟨#[36]⟩ : ByteArray).size = 1 := rfl; omega
    clear h2 g2
    go_enter Tryd.func7, Tryd.ntmps7
    go_wp2_with fail
    refine (impl_tokOK 3 b s _ (by unfold maxLen; omega)).mono ?_
    rintro e w1 ⟨rfl, hb1⟩
    obtain ⟨hc1, hf1⟩ := bcell hb1
    go_wp2_with fail
    go_ret2
    exact ⟨by unfold textS; rw [if_neg (by decide), if_pos rfl]; rfl, ((Below.refl _ _).alloc (Nat.le_refl _) _).trans (hb1.mono (by simp))⟩
  have g3 : (a == 3) = false := by rw [beq_eq_false_iff_ne]; omega
  have HT : Hid (s = textS a b s) := by unfold Hid textS; rw [if_neg h2, if_neg h3]
  clear h2 h3
  go_enter Tryd.func7, Tryd.ntmps7
  go_wp2_with fail
  refine (impl_tokOK a b s _ (by unfold maxLen; omega)).mono ?_
  rintro e w1 ⟨rfl, hb1⟩
  obtain ⟨hc1, hf1⟩ := bcell hb1
  have hz1 : w.heap.size + 1 ≤ w1.heap.size := by have := hb1.size; simpa using this
  have q1 : Below w.heap.size w w1 := ((Below.refl _ _).alloc (Nat.le_refl _) _).trans (hb1.mono (by simp))
  go_wp2_with fail
  refine (clone_any s _ hs).mono ?_
  rintro e w2 ⟨rfl, hb2⟩
  go_wp2_with fail
  go_ret2
  exact ⟨by rw [← HT.out]; rfl, q1.trans (hb2.mono q1.size)⟩
end Go.Proofs.YtjbogjoadcikhaaDoor
