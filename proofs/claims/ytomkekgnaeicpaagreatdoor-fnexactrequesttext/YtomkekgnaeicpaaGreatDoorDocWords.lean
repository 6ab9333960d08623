/- The program's text of a value, of a selection's head. -/
import Derived.Test.YtomkekgnaeicpaaGreatDoorDocText
import Derived.Test.YtomkekgnaeicpaaGreatDoorDocTo
import Derived.Test.YtomkekgnaeicpaaGreatDoorShelf
namespace Go.Proofs.YtomkekgnaeicpaaGreatDoor
open Go.ChangeShapes Go.WideShapes Go.ChangeAt Go.RowKit
set_option linter.unusedVariables false

/-- The library's table of powers, whatever is done above the globals. -/
def Pow (w : World) : Prop := Lib.TabIs Tryz.prog w "internal/strconv.uint64pow10" .u64 Lib.pow10Tab
theorem gPow : ∃ g, Tryz.prog.globalNamed "internal/strconv.uint64pow10" = some g := by
  have h : (Tryz.prog.globalNamed "internal/strconv.uint64pow10").isSome = true := by kernel_rfl
  exact Option.isSome_iff_exists.1 h
theorem Pow.up {w w' : World} (h : Pow w) (hb : Below w.heap.size w w') : Pow w' := by
  obtain ⟨g, hg⟩ := gPow
  unfold Pow Lib.TabIs World.var? at h ⊢
  rw [hg] at h ⊢
  simp only [Option.bind_some] at h ⊢
  have pos : g < w.heap.size := by
    split at h
    · rename_i hh; exact (Array.getElem?_eq_some_iff.1 hh).1
    · cases h
  rw [hb.block g pos]
  exact h
theorem grow_below (w : World) (k : Nat) (os : Array Obj) : Below w.heap.size w (Sort.grow (w.drewN k) os) := by
  refine ⟨rfl, rfl, rfl, ?_, ?_⟩
  · show w.heap.size ≤ ((w.drewN k).heap ++ os).size
    have : (w.drewN k).heap = w.heap := rfl
    rw [this]; simp
  · intro i hi
    show ((w.drewN k).heap ++ os)[i]? = w.heap[i]?
    have : (w.drewN k).heap = w.heap := rfl
    rw [this, Array.getElem?_append_left hi]
theorem itoa_any (n : Int) (w : World) (h0 : -9223372036854775807 ≤ n) (h1 : n ≤ 9223372036854775807) (hp : Pow w) :
    Calls Tryz.prog 55 #[.int .i64 n] w fun e w' => e = .returned (.string ⟨(Lib.itoa n).toArray⟩) ∧ Below w.heap.size w w' := by
  refine (Tryz.strconv_Itoa n (by omega) h1 w hp).mono ?_
  rintro e w1 ⟨rfl, k, os, rfl⟩
  exact ⟨rfl, grow_below w k os⟩
set_option maxHeartbeats 1000000 in
theorem impl_valueT (v : Va) (w : World) (hv : valB v = true) (hp : Pow w) :
    Calls Tryz.prog 32 #[.agg #[.int .i64 v.k, .int .i64 v.n, .string v.t]] w fun e w' => e = .returned (.string (bl (valP v))) ∧ Below w.heap.size w w' := by
  have B0 : Hid (Below w.heap.size w (w.alloc (.cells #[.int .i64 v.k, .int .i64 v.n, .string v.t] 58))) := (Below.refl _ _).alloc (Nat.le_refl _) _
  have HP0 : Hid (Pow (w.alloc (.cells #[.int .i64 v.k, .int .i64 v.n, .string v.t] 58))) := hp.up B0.out
  clear hp
  unfold valB at hv
  by_cases k1 : v.k = 1
  · have g1 : (v.k == 1) = true := by rw [beq_iff_eq]; exact k1
    rw [if_pos k1, Bool.and_eq_true] at hv
    have hi := hv.1
    unfold intB at hi
    rw [decide_eq_true_eq] at hi
    have HP : Hid ((⟨(Lib.itoa v.n).toArray⟩ : ByteArray) = bl (valP v)) := by unfold Hid valP; rw [if_pos k1]; rfl
    clear k1 hv
    go_enter Tryz.func32, Tryz.ntmps32
    go_wp2_with fail
    refine (itoa_any v.n _ (by omega) (by omega) HP0.out).mono ?_
    rintro e w1 ⟨rfl, hb1⟩
    have Q : Hid (Below w.heap.size w w1) := B0.out.trans (hb1.mono (by simp))
    clear hb1
    go_wp2_with fail
    go_ret
    exact ⟨ret_str HP.out, Q.out⟩
  have g1 : (v.k == 1) = false := by rw [beq_eq_false_iff_ne]; exact k1
  rw [if_neg k1] at hv
  by_cases k4 : v.k = 4
  · have g4 : (v.k == 4) = true := by rw [beq_iff_eq]; exact k4
    rw [if_neg (by omega), if_neg (by omega), if_pos k4, Bool.and_eq_true] at hv
    have hl := name_len hv.2
    have r1 : ¬ (9223372036854775807 < 1 + v.t.size) := by omega
    have r2 : ¬ (9223372036854775807 < (⟨#[36]⟩ : ByteArray).size + v.t.size) := r1
    have HP : Hid ((⟨#[36]⟩ : ByteArray) ++ v.t = bl (valP v)) := by
      refine bl_of ?_
      rw [nl_app]
      unfold valP; rw [if_neg k1, if_neg (by omega), if_pos k4]; rfl
    clear k1 k4 hv HP0
    go_enter Tryz.func32, Tryz.ntmps32
    go_wp2_with fail
    go_ret
    exact ⟨ret_str HP.out, B0.out⟩
  have g4 : (v.k == 4) = false := by rw [beq_eq_false_iff_ne]; exact k4
  by_cases k3 : v.k = 3
  · have g3 : (v.k == 3) = true := by rw [beq_iff_eq]; exact k3
    have HP : Hid ((⟨#[110, 117, 108, 108]⟩ : ByteArray) = bl (valP v)) := by unfold Hid valP; rw [if_neg k1, if_neg (by omega), if_neg k4]; rfl
    clear k1 k4 k3 hv HP0
    go_enter Tryz.func32, Tryz.ntmps32
    go_wp2_with fail
    go_ret
    exact ⟨ret_str HP.out, B0.out⟩
  have g3 : (v.k == 3) = false := by rw [beq_eq_false_iff_ne]; exact k3
  have k2 : v.k = 2 := by
    rw [if_neg k3, if_neg k4] at hv
    by_cases h2 : v.k = 2
    · exact h2
    · rw [if_neg h2] at hv; cases hv
  rw [if_pos k2, Bool.and_eq_true, Bool.or_eq_true, beq_iff_eq, beq_iff_eq] at hv
  have HP : Hid (valP v = if v.n = 1 then [116, 114, 117, 101] else [102, 97, 108, 115, 101]) := by unfold Hid valP; rw [if_neg k1, if_pos k2]
  have hn := hv.1
  clear k1 k2 k3 k4 hv HP0
  generalize v.n = n at *
  rcases hn with rfl | rfl
  · go_enter Tryz.func32, Tryz.ntmps32
    go_wp2_with fail
    go_ret
    exact ⟨ret_str (by rw [HP.out]; rfl), B0.out⟩
  · go_enter Tryz.func32, Tryz.ntmps32
    go_wp2_with fail
    go_ret
    exact ⟨ret_str (by rw [HP.out]; rfl), B0.out⟩

set_option maxHeartbeats 1000000 in
theorem impl_headT (h : Hd) (a1 a2 a3 : Option Addr) (n1 n2 n3 c1 c2 c3 : Nat) (w : World) (g : HdGood h) :
    Calls Tryz.prog 84 #[.agg #[.int .i64 h.k, .string h.al, .string h.nm, .slice a1 n1 c1, .slice a2 n2 c2, .slice a3 n3 c3]] w fun e w' => e = .returned (.string (bl (headP h))) ∧ Below w.heap.size w w' := by
  have B0 : Hid (Below w.heap.size w (w.alloc (.cells #[.int .i64 h.k, .string h.al, .string h.nm, .slice a1 n1 c1, .slice a2 n2 c2, .slice a3 n3 c3] 111))) := (Below.refl _ _).alloc (Nat.le_refl _) _
  have sn := g.nm
  have sa := g.al
  have hkind := g.kind
  clear g
  by_cases k2 : h.k = 2
  · have g2 : (h.k == 2) = true := by rw [beq_iff_eq]; exact k2
    have r1 : ¬ (9223372036854775807 < 4 + h.nm.size) := by omega
    have r2 : ¬ (9223372036854775807 < (⟨#[46, 46, 46, 32]⟩ : ByteArray).size + h.nm.size) := r1
    have HP : Hid ((⟨#[46, 46, 46, 32]⟩ : ByteArray) ++ h.nm = bl (headP h)) := by
      refine bl_of ?_
      rw [nl_app]
      unfold headP; rw [if_neg (by omega), if_pos k2]; simp [nl_lit]
    clear k2 hkind
    go_enter Tryz.func84, Tryz.ntmps84
    go_wp2_with fail
    go_ret
    exact ⟨ret_str HP.out, B0.out⟩
  have g2 : (h.k == 2) = false := by rw [beq_eq_false_iff_ne]; exact k2
  by_cases k3 : h.k = 3
  · have g3 : (h.k == 3) = true := by rw [beq_iff_eq]; exact k3
    cases hno : noB h.nm
    · have he : ¬ h.nm.toList = [] := by unfold noB at hno; rw [List.isEmpty_eq_false_iff] at hno; exact hno
      have hne : (h.nm.toList == []) = false := by rw [beq_no]; exact hno
      have hie : h.nm.toList.isEmpty = false := hno
      have r1 : ¬ (9223372036854775807 < 7 + h.nm.size) := by omega
      have r2 : ¬ (9223372036854775807 < (⟨#[46, 46, 46, 32, 111, 110, 32]⟩ : ByteArray).size + h.nm.size) := r1
      have HP : Hid ((⟨#[46, 46, 46, 32, 111, 110, 32]⟩ : ByteArray) ++ h.nm = bl (headP h)) := by
        refine bl_of ?_
        rw [nl_app]
        unfold headP; rw [if_neg (by omega), if_neg k2, hno]; simp [nl_lit]
      clear k2 k3 hkind hno
      go_enter Tryz.func84, Tryz.ntmps84
      go_wp2_with fail
      go_ret
      exact ⟨ret_str HP.out, B0.out⟩
    · have he : h.nm.toList = [] := by unfold noB at hno; rw [List.isEmpty_iff] at hno; exact hno
      have hne : (h.nm.toList == []) = true := by rw [beq_no]; exact hno
      have hie : h.nm.toList.isEmpty = true := hno
      have HP : Hid ((⟨#[46, 46, 46]⟩ : ByteArray) = bl (headP h)) := by
        refine bl_of ?_
        unfold headP; rw [if_neg (by omega), if_neg k2, hno]; simp [nl_lit]
      clear k2 k3 hkind hno
      go_enter Tryz.func84, Tryz.ntmps84
      go_wp2_with fail
      go_ret
      exact ⟨ret_str HP.out, B0.out⟩
  have g3 : (h.k == 3) = false := by rw [beq_eq_false_iff_ne]; exact k3
  have k1 : h.k = 1 := by omega
  cases hno : noB h.al
  · have he : ¬ h.al.toList = [] := by unfold noB at hno; rw [List.isEmpty_eq_false_iff] at hno; exact hno
    have hne : (h.al.toList == []) = false := by rw [beq_no]; exact hno
    have hie : h.al.toList.isEmpty = false := hno
    have r1 : ¬ (9223372036854775807 < h.al.size + 2) := by omega
    have r2 : ¬ (9223372036854775807 < h.al.size + 2 + h.nm.size) := by omega
    have r3 : ¬ (9223372036854775807 < h.al.size + (⟨#[58, 32]⟩ : ByteArray).size) := r1
    have r4 : ¬ (9223372036854775807 < (h.al ++ (⟨#[58, 32]⟩ : ByteArray)).size + h.nm.size) := by rw [ByteArray.size_append]; exact r2
    have HP : Hid (h.al ++ (⟨#[58, 32]⟩ : ByteArray) ++ h.nm = bl (headP h)) := by
      refine bl_of ?_
      rw [nl_app, nl_app]
      unfold headP; rw [if_pos k1, hno]; simp [nl_lit]
    clear k1 k2 k3 hkind hno
    go_enter Tryz.func84, Tryz.ntmps84
    go_wp2_with fail
    go_ret
    exact ⟨ret_str HP.out, B0.out⟩
  · have he : h.al.toList = [] := by unfold noB at hno; rw [List.isEmpty_iff] at hno; exact hno
    have hne : (h.al.toList == []) = true := by rw [beq_no]; exact hno
    have hie : h.al.toList.isEmpty = true := hno
    have HP : Hid (h.nm = bl (headP h)) := by
      refine bl_of ?_
      unfold headP; rw [if_pos k1, hno]; simp
    clear k1 k2 k3 hkind hno
    go_enter Tryz.func84, Tryz.ntmps84
    go_wp2_with fail
    go_ret
    exact ⟨ret_str HP.out, B0.out⟩
end Go.Proofs.YtomkekgnaeicpaaGreatDoor
