/- The specification's text of a selection. -/
import Derived.Test.YtiehcmdhfeeomaaDocText
import Derived.Test.YtiehcmdhfeeomaaDocTo
import Derived.Deep.CutBlock
import Derived.Deep.CutRange
import Derived.Test.YtiehcmdhfeeomaaDRegion
namespace Go.Proofs.Ytiehcmdhfeeomaa
open Go.ChangeShapes Go.WideShapes Go.ChangeAt Go.RowKit
set_option linter.unusedVariables false

def Text_set (l : Sels) : Prop := ∀ (a : Option Addr) (c : Nat) (w : World), SelRow 0 w.heap.size w a l →
    Calls Try.prog 39 #[.slice a l.len c] w fun e w' => e = .returned (.string (bl (123 :: selsP l))) ∧ Below w.heap.size w w'
/-- Two texts in a block. -/
def Sl2 (w : World) (v : Value) (s t : ByteArray) : Prop := ∃ g, v = .slice (some ⟨g, 0, none⟩) 2 2 ∧ w.heap[g]? = some (.cells #[.string s, .string t] 9 (0, 0))
theorem Sl2.up {w w' : World} {v : Value} {s t : ByteArray} (h : Sl2 w v s t) (hb : Below w.heap.size w w') : Sl2 w' v s t := by
  obtain ⟨g, h1, h2⟩ := h
  exact ⟨g, h1, (hb.block g (Array.getElem?_eq_some_iff.1 h2).1).trans h2⟩
def Pt2 (w : World) (v : Value) (k : Nat) (s t : ByteArray) : Prop := ∃ g, v = .pointer (some ⟨g, k, none⟩) ∧ w.heap[g]? = some (.cells #[.string s, .string t] 9 (0, 0))
theorem Pt2.up {w w' : World} {v : Value} {k : Nat} {s t : ByteArray} (h : Pt2 w v k s t) (hb : Below w.heap.size w w') : Pt2 w' v k s t := by
  obtain ⟨g, h1, h2⟩ := h
  exact ⟨g, h1, (hb.block g (Array.getElem?_eq_some_iff.1 h2).1).trans h2⟩
theorem lit_len (a : Array UInt8) : (⟨a⟩ : ByteArray).size = a.size := rfl

set_option maxHeartbeats 4000000 in
set_option maxRecDepth 40000 in
theorem spec_selText (h : Hd) (sub : Sels) (a1 a2 a3 : Option Addr) (c1 c2 c3 : Nat) (w : World) (r1 : ArRow 0 w.heap.size w a1 h.args) (r2 : DiRow 0 w.heap.size w a2 h.dirs) (r3 : SelRow 0 w.heap.size w a3 sub) (g : HdGood h) (hs : (selsP sub).length ≤ 70000) (IS : Text_set sub) :
    Calls Try.prog 57 #[.agg #[.int .i64 h.k, .string h.al, .string h.nm, .slice a1 h.args.length c1, .slice a2 h.dirs.length c2, .slice a3 sub.len c3]] w fun e w' =>
      e = .returned (.string (bl (selP h sub))) ∧ Below w.heap.size w w' := by
  have IT : Hid (Text_set sub) := IS
  have HG : Hid (HdGood h) := g
  obtain ⟨W, hW⟩ : ∃ W, W = w.alloc (.cells #[.int .i64 h.k, .string h.al, .string h.nm, .slice a1 h.args.length c1, .slice a2 h.dirs.length c2, .slice a3 sub.len c3] 108) := ⟨_, rfl⟩
  have B0 : Below w.heap.size w W := by rw [hW]; exact (Below.refl _ _).alloc (Nat.le_refl _) _
  have zW : W.heap.size = w.heap.size + 1 := by rw [hW]; simp
  have R1 : Hid (ArRow 0 W.heap.size W a1 h.args) := Row.up r1 B0
  have R2 : Hid (DiRow 0 W.heap.size W a2 h.dirs) := Row.up r2 B0
  have R3 : Hid (SelRow 0 W.heap.size W a3 sub) := SelRow.up r3 B0
  have QB : Hid (Below w.heap.size w W) := B0
  have hx : W.heap[w.heap.size]? = some (.cells #[.int .i64 h.k, .string h.al, .string h.nm, .slice a1 h.args.length c1, .slice a2 h.dirs.length c2, .slice a3 sub.len c3] 108 (0, 0)) := by rw [hW]; exact heap_alloc_new _ _
  have HX : Hid (∀ W', Below W.heap.size W W' → W'.cell? ⟨w.heap.size, 0, none⟩ = some (.int .i64 h.k) ∧ W'.cell? ⟨w.heap.size, 1, none⟩ = some (.string h.al) ∧ W'.cell? ⟨w.heap.size, 2, none⟩ = some (.string h.nm) ∧ W'.cell? ⟨w.heap.size, 3, none⟩ = some (.slice a1 h.args.length c1) ∧ W'.cell? ⟨w.heap.size, 4, none⟩ = some (.slice a2 h.dirs.length c2) ∧ W'.cell? ⟨w.heap.size, 5, none⟩ = some (.slice a3 sub.len c3)) := fun W' hB => by
    have e := (hB.block w.heap.size (by omega)).trans hx
    exact ⟨row_cell e 0, row_cell e 1, row_cell e 2, row_cell e 3, row_cell e 4, row_cell e 5⟩
  clear r1 r2 r3 B0 hx IS g
  go_enter Try.func57, Try.ntmps57
  go_upto_block 0 with fail
  rw [← hW]
  clear hW
  go_cut [3] from 8 to 33 (fun u wx => u = .string (bl (headP h)) ∧ wx = W)
  case first =>
    obtain ⟨x0, x1, x2, x3, x4, x5⟩ := HX.out _ (Below.refl _ _)
    have sn := HG.out.nm
    have sa := HG.out.al
    have hkind := HG.out.kind
    by_cases k1 : h.k = 1
    · have g1 : (h.k == 1) = true := by rw [beq_iff_eq]; exact k1
      cases hno : noB h.al
      · have l1 : (⟨#[58, 32]⟩ : ByteArray).size = 2 := rfl
        have n1 : ¬ (9223372036854775807 < h.al.size + (⟨#[58, 32]⟩ : ByteArray).size) := by omega
        have n2 : ¬ (9223372036854775807 < (h.al ++ (⟨#[58, 32]⟩ : ByteArray)).size + h.nm.size) := by rw [ByteArray.size_append]; omega
        have n3 : ¬ (9223372036854775807 < h.al.size + (⟨#[58, 32]⟩ : ByteArray).size + h.nm.size) := by omega
        have he : ¬ h.al.toList = [] := by unfold noB at hno; rw [List.isEmpty_eq_false_iff] at hno; exact hno
        have hne : (h.al.toList == []) = false := by rw [beq_no]; exact hno
        have HP : Hid (h.al ++ (⟨#[58, 32]⟩ : ByteArray) ++ h.nm = bl (headP h)) := by
          refine bl_of ?_
          rw [nl_app, nl_app]
          unfold headP; rw [if_pos k1, hno]; simp [nl_lit]
        clear k1 hno l1 hkind
        go_wp2_with fail
        go_meet
        exact ⟨by rw [HP.out], rfl⟩
      · have he : h.al.toList = [] := by unfold noB at hno; rw [List.isEmpty_iff] at hno; exact hno
        have hne : (h.al.toList == []) = true := by rw [beq_no]; exact hno
        have HP : Hid (h.nm = bl (headP h)) := by
          refine bl_of ?_
          unfold headP; rw [if_pos k1, hno]; simp
        clear k1 hno hkind
        go_wp2_with fail
        go_meet
        exact ⟨by rw [← HP.out], rfl⟩
    · have g1 : (h.k == 1) = false := by rw [beq_eq_false_iff_ne]; exact k1
      by_cases k2 : h.k = 2
      · have g2 : (h.k == 2) = true := by rw [beq_iff_eq]; exact k2
        have l1 : (⟨#[46, 46, 46, 32]⟩ : ByteArray).size = 4 := rfl
        have n1 : ¬ (9223372036854775807 < (⟨#[46, 46, 46, 32]⟩ : ByteArray).size + h.nm.size) := by omega
        have HP : Hid ((⟨#[46, 46, 46, 32]⟩ : ByteArray) ++ h.nm = bl (headP h)) := by
          refine bl_of ?_
          rw [nl_app]
          unfold headP; rw [if_neg k1, if_pos k2]; simp [nl_lit]
        clear k1 k2 l1 hkind
        go_wp2_with fail
        go_meet
        exact ⟨by rw [HP.out], rfl⟩
      · have g2 : (h.k == 2) = false := by rw [beq_eq_false_iff_ne]; exact k2
        cases hno : noB h.nm
        · have l1 : (⟨#[46, 46, 46]⟩ : ByteArray).size = 3 := rfl
          have l2 : (⟨#[32, 111, 110, 32]⟩ : ByteArray).size = 4 := rfl
          have n1 : ¬ (9223372036854775807 < (⟨#[32, 111, 110, 32]⟩ : ByteArray).size + h.nm.size) := by omega
          have n2 : ¬ (9223372036854775807 < (⟨#[46, 46, 46]⟩ : ByteArray).size + ((⟨#[32, 111, 110, 32]⟩ : ByteArray) ++ h.nm).size) := by rw [ByteArray.size_append]; omega
          have n3 : ¬ (9223372036854775807 < (⟨#[46, 46, 46]⟩ : ByteArray).size + ((⟨#[32, 111, 110, 32]⟩ : ByteArray).size + h.nm.size)) := by omega
          have he : ¬ h.nm.toList = [] := by unfold noB at hno; rw [List.isEmpty_eq_false_iff] at hno; exact hno
          have hne : (h.nm.toList == []) = false := by rw [beq_no]; exact hno
          have HP : Hid ((⟨#[46, 46, 46]⟩ : ByteArray) ++ ((⟨#[32, 111, 110, 32]⟩ : ByteArray) ++ h.nm) = bl (headP h)) := by
            refine bl_of ?_
            rw [nl_app, nl_app]
            unfold headP; rw [if_neg k1, if_neg k2, hno]; simp [nl_lit]
          clear k1 k2 hno l1 l2 hkind
          go_wp2_with fail
          go_meet
          exact ⟨by rw [HP.out], rfl⟩
        · have he : h.nm.toList = [] := by unfold noB at hno; rw [List.isEmpty_iff] at hno; exact hno
          have hne : (h.nm.toList == []) = true := by rw [beq_no]; exact hno
          have HP : Hid ((⟨#[46, 46, 46]⟩ : ByteArray) = bl (headP h)) := by
            refine bl_of ?_
            unfold headP; rw [if_neg k1, if_neg k2, hno]; simp [nl_lit]
          clear k1 k2 hno hkind
          go_wp2_with fail
          go_meet
          exact ⟨by rw [HP.out], rfl⟩
  obtain ⟨rfl, rfl⟩ := hcut
  obtain ⟨W, rfl⟩ : ∃ X, X = wc := ⟨wc, rfl⟩
  go_wp2_with fail
  go_loopw [3, 4] (fun s i w' => ∃ (k : Nat) (u : ByteArray), k ≤ h.args.length ∧ i = .int .i64 k ∧ s = .string u ∧ Hid (nl u = headP h ++ aPre (h.args.take k)) ∧ Below W.heap.size W w') (fun _ i _ => h.args.length - (intOf i).toNat)
  case atStart => exact ⟨0, _, by omega, rfl, rfl, by unfold Hid; rw [nl_bl]; simp [aPre], Below.refl _ _⟩
  case round =>
    rename_i wr
    obtain ⟨k, u, hk, rfl, rfl, HU, hb⟩ := hrel
    obtain ⟨x0, x1, x2, x3, x4, x5⟩ := HX.out _ hb
    have hz := hb.size
    have su : u.size ≤ 500 := by
      have h1 := headP_len HG.out
      have h2 := aPre_len (l := h.args.take k) (fun x hx => HG.out.arB x (List.mem_of_mem_take hx))
      have h3 := HG.out.args
      rw [← nl_len, HU.out, List.length_append]
      rw [List.length_take] at h2
      omega
    by_cases hlt : k < h.args.length
    · obtain ⟨b, o, ha, _, hbl, d0, d1, d2, d3⟩ := Row.cells_ar (Row.keep R1.out (Below.agree hb (Nat.le_refl _))) k hlt
      subst ha
      have hbr : b < wr.heap.size := by omega
      have HA : Hid (arB h.args[k] = true) := HG.out.arB _ (List.getElem_mem hlt)
      have HV : Hid (valB h.args[k].v = true) := by have := HA.out; unfold arB at this; rw [Bool.and_eq_true] at this; exact this.2
      by_cases hk0 : k = 0
      · subst hk0
        simp only [Nat.zero_mul, Nat.add_zero] at d0 d1 d2 d3
        have l1 : (⟨#[40]⟩ : ByteArray).size = 1 := rfl
        have l2 : (⟨#[58, 32]⟩ : ByteArray).size = 2 := rfl
        have lv := valP_len HV.out
        have ln : h.args[0].nm.size ≤ 40 := by have := HA.out; unfold arB at this; rw [Bool.and_eq_true] at this; exact name_len this.1
        have n0 : ¬ (9223372036854775807 < ((⟨#[40]⟩ : ByteArray)).size + (h.args[0].nm).size) := by (repeat rw [ByteArray.size_append]); (try rw [bl_size]); omega
        have n1 : ¬ (9223372036854775807 < (((⟨#[40]⟩ : ByteArray) ++ h.args[0].nm)).size + ((⟨#[58, 32]⟩ : ByteArray)).size) := by (repeat rw [ByteArray.size_append]); (try rw [bl_size]); omega
        have n2 : ¬ (9223372036854775807 < ((((⟨#[40]⟩ : ByteArray) ++ h.args[0].nm) ++ (⟨#[58, 32]⟩ : ByteArray))).size + (bl (valP h.args[0].v)).size) := by (repeat rw [ByteArray.size_append]); (try rw [bl_size]); omega
        have n3 : ¬ (9223372036854775807 < (u).size + (((((⟨#[40]⟩ : ByteArray) ++ h.args[0].nm) ++ (⟨#[58, 32]⟩ : ByteArray)) ++ bl (valP h.args[0].v))).size) := by (repeat rw [ByteArray.size_append]); (try rw [bl_size]); omega
        have m2 : ¬ (9223372036854775807 < (⟨#[40]⟩ : ByteArray).size + h.args[0].nm.size + (⟨#[58, 32]⟩ : ByteArray).size) := by omega
        have m3 : ¬ (9223372036854775807 < (⟨#[40]⟩ : ByteArray).size + h.args[0].nm.size + (⟨#[58, 32]⟩ : ByteArray).size + (bl (valP h.args[0].v)).size) := by rw [bl_size]; omega
        have m4 : ¬ (9223372036854775807 < u.size + ((⟨#[40]⟩ : ByteArray).size + h.args[0].nm.size + (⟨#[58, 32]⟩ : ByteArray).size + (bl (valP h.args[0].v)).size)) := by rw [bl_size]; omega
        have r1 : ¬ (9223372036854775807 < 1 + h.args[0].nm.size) := by omega
        have r2 : ¬ (9223372036854775807 < 1 + h.args[0].nm.size + 2) := by omega
        have r3 : ¬ (9223372036854775807 < 1 + h.args[0].nm.size + 2 + (bl (valP h.args[0].v)).size) := by rw [bl_size]; omega
        have r4 : ¬ (9223372036854775807 < u.size + (1 + h.args[0].nm.size + 2 + (bl (valP h.args[0].v)).size)) := by rw [bl_size]; omega
        have ha4 := HG.out.args
        have HN : Hid (nl (u ++ ((((⟨#[40]⟩ : ByteArray) ++ h.args[0].nm) ++ (⟨#[58, 32]⟩ : ByteArray)) ++ bl (valP h.args[0].v))) = headP h ++ aPre (h.args.take (0 + 1))) := by
          unfold Hid
          rw [aPre_one hlt, nl_app, nl_app, nl_app, nl_app, nl_bl, HU.out]
          simp [nl_lit, arP, aPre]
        have KS : Hid (∀ w', Below wr.heap.size wr w' → w'.cell? ⟨w.heap.size, 3, none⟩ = some (.slice (some ⟨b, o, none⟩) h.args.length c1) ∧ w'.cell? ⟨b, o, none⟩ = some (.string h.args[0].nm) ∧ w'.cell? ⟨b, o + 1, none⟩ = some (.int .i64 h.args[0].v.k) ∧ w'.cell? ⟨b, o + 2, none⟩ = some (.int .i64 h.args[0].v.n) ∧ w'.cell? ⟨b, o + 3, none⟩ = some (.string h.args[0].v.t)) := fun w' hB =>
          ⟨(hB.cell (p := ⟨w.heap.size, 3, none⟩) (show w.heap.size < wr.heap.size by omega)).trans x3, (hB.cell (p := ⟨b, o, none⟩) hbr).trans d0, (hB.cell (p := ⟨b, o + 1, none⟩) hbr).trans d1, (hB.cell (p := ⟨b, o + 2, none⟩) hbr).trans d2, (hB.cell (p := ⟨b, o + 3, none⟩) hbr).trans d3⟩
        clear l1 l2 lv ln su d0 d1 d2 d3 x0 x1 x2 x4 x5
        go_wp2_with fail
        refine region_rel (n := 24) (by kernel_rfl) (by kernel_rfl) (by kernel_rfl) (fun u' => ⟨#[.agg #[.int .i64 h.k, .string h.al, .string h.nm, .slice (some ⟨b, o, none⟩) h.args.length c1, .slice a2 h.dirs.length c2, .slice a3 sub.len c3], .pointer (some ⟨w.heap.size, 0, none⟩), .string ⟨#[]⟩, .string u, .int .i64 ((0 : Nat) : Int), undef, .pointer (some ⟨w.heap.size, 2, none⟩), .string h.nm, u8, u9, u10, u11, u12, u13, u14, u15, u16, u17, u18, u19, u20, u21, u22, u23, u24, u25, u26, u27, u28, u29, u30, u31, u32, u33, .int .i64 ((0 : Nat) : Int), .pointer (some ⟨w.heap.size, 3, none⟩), .slice (some ⟨b, o, none⟩) h.args.length c1, .int .i64 (h.args.length : Int), .bool true, u39, u40, u' 41, u' 42, u' 43, u' 44, u' 45, u' 46, u' 47, u' 48, u' 49, u' 50, u' 51, u' 52, u' 53, u' 54, u' 55, u' 56, u' 57, u' 58, u' 59, u' 60, u' 61, u' 62, u' 63, u' 64, undef, undef, undef, undef, undef, undef, undef, undef, undef, undef, undef, undef, undef, undef, undef, undef, undef, undef, undef, undef, undef, undef, undef, undef, undef, undef, undef, undef, undef, undef, undef, undef, undef, undef, undef, undef, undef, undef, undef, undef, undef, undef, undef, undef, undef, undef, undef], []⟩) (fun i => match i with | 41 => u41 | 42 => u42 | 43 => u43 | 44 => u44 | 45 => u45 | 46 => u46 | 47 => u47 | 48 => u48 | 49 => u49 | 50 => u50 | 51 => u51 | 52 => u52 | 53 => u53 | 54 => u54 | 55 => u55 | 56 => u56 | 57 => u57 | 58 => u58 | 59 => u59 | 60 => u60 | 61 => u61 | 62 => u62 | 63 => u63 | 64 => u64 | 3 => .string u | _ => undef) (fun i => i + 41) (fun i j _ _ h => by omega) (fun i v w2 => match i with | 0 => v = .string u | 1 => Sl2 w2 v ⟨#[40]⟩ ⟨#[32]⟩ | 2 => v = .int .i64 ((0 : Nat) : Int) | 3 => v = .bool false | 4 => v = .int .i64 0 | 5 => Pt2 w2 v 0 ⟨#[40]⟩ ⟨#[32]⟩ | 6 => v = .string (⟨#[40]⟩ : ByteArray) | 7 => v = .pointer (some ⟨w.heap.size, 3, none⟩) | 8 => v = .slice (some ⟨b, o, none⟩) h.args.length c1 | 9 => v = .int .i64 ((0 : Nat) : Int) | 10 => v = .pointer (some ⟨b, o, none⟩) | 11 => v = .pointer (some ⟨b, o, none⟩) | 12 => v = .string h.args[0].nm | 13 => v = .string ((⟨#[40]⟩ : ByteArray) ++ h.args[0].nm) | 14 => v = .string (((⟨#[40]⟩ : ByteArray) ++ h.args[0].nm) ++ (⟨#[58, 32]⟩ : ByteArray)) | 15 => v = .pointer (some ⟨w.heap.size, 3, none⟩) | 16 => v = .slice (some ⟨b, o, none⟩) h.args.length c1 | 17 => v = .int .i64 ((0 : Nat) : Int) | 18 => v = .pointer (some ⟨b, o, none⟩) | 19 => v = .pointer (some ⟨b, o + 1, none⟩) | 20 => v = .agg #[.int .i64 h.args[0].v.k, .int .i64 h.args[0].v.n, .string h.args[0].v.t] | 21 => v = .string (bl (valP h.args[0].v)) | 22 => v = .string ((((⟨#[40]⟩ : ByteArray) ++ h.args[0].nm) ++ (⟨#[58, 32]⟩ : ByteArray)) ++ bl (valP h.args[0].v)) | 23 => v = .string (u ++ ((((⟨#[40]⟩ : ByteArray) ++ h.args[0].nm) ++ (⟨#[58, 32]⟩ : ByteArray)) ++ bl (valP h.args[0].v))) | _ => True) (fun _ _ => True) ?up trivial ?step ?last
        case up =>
          intro i v w2 w3 hv hbb
          split at hv <;> first | exact hv | exact Sl2.up hv hbb | exact Pt2.up hv hbb
        case step =>
          intro u' w2 i hi hbw _ hdep
          have hcase : i = 0 ∨ i = 1 ∨ i = 2 ∨ i = 3 ∨ i = 4 ∨ i = 5 ∨ i = 6 ∨ i = 7 ∨ i = 8 ∨ i = 9 ∨ i = 10 ∨ i = 11 ∨ i = 12 ∨ i = 13 ∨ i = 14 ∨ i = 15 ∨ i = 16 ∨ i = 17 ∨ i = 18 ∨ i = 19 ∨ i = 20 ∨ i = 21 ∨ i = 22 ∨ i = 23 := by omega
          rcases hcase with rfl | rfl | rfl | rfl | rfl | rfl | rfl | rfl | rfl | rfl | rfl | rfl | rfl | rfl | rfl | rfl | rfl | rfl | rfl | rfl | rfl | rfl | rfl | rfl
          · refine wpOp_step rfl (fun K hK => ?_)
            clear hdep
            go_simp
            exact hK _ _ ⟨_, rfl, Below.refl _ _, rfl, trivial⟩
          · refine wpOp_step rfl (fun K hK => ?_)
            clear hdep
            go_simp
            exact hK _ _ ⟨.slice (some ⟨w2.heap.size, 0, none⟩) 2 2, rfl, (Below.refl _ _).alloc (Nat.le_refl _) _, ⟨w2.heap.size, rfl, heap_alloc_new _ _⟩, trivial⟩
          · refine wpOp_step rfl (fun K hK => ?_)
            clear hdep
            go_simp
            exact hK _ _ ⟨_, rfl, Below.refl _ _, rfl, trivial⟩
          · have d2 : u' 43 = .int .i64 ((0 : Nat) : Int) := hdep _ rfl ⟨2, .data⟩ (by simp) rfl
            refine wpOp_step rfl (fun K hK => ?_)
            clear hdep
            go_simp
            exact hK _ _ ⟨_, by simp [upd, d2], Below.refl _ _, rfl, trivial⟩
          · have d3 : u' 44 = .bool false := hdep _ rfl ⟨3, .data⟩ (by simp) rfl
            refine wpOp_step rfl (fun K hK => ?_)
            clear hdep
            go_simp
            refine (spec_bit _ _).mono ?_
            rintro e w8 ⟨rfl, rfl⟩
            exact hK _ _ ⟨.int .i64 0, by simp [upd, d3], Below.refl _ _, rfl, trivial⟩
          · have d1 : Sl2 w2 (u' 42) ⟨#[40]⟩ ⟨#[32]⟩ := hdep _ rfl ⟨1, .data⟩ (by simp) rfl
            have d4 : u' 45 = .int .i64 0 := hdep _ rfl ⟨4, .data⟩ (by simp) rfl
            obtain ⟨g, e1, e2⟩ := d1
            refine wpOp_step rfl (fun K hK => ?_)
            clear hdep
            go_simp
            exact hK _ _ ⟨.pointer (some ⟨g, 0, none⟩), by simp [upd, e1, d4], Below.refl _ _, ⟨g, rfl, e2⟩, trivial⟩
          · have d5 : Pt2 w2 (u' 46) 0 ⟨#[40]⟩ ⟨#[32]⟩ := hdep _ rfl ⟨5, .data⟩ (by simp) rfl
            obtain ⟨g, e1, e2⟩ := d5
            have cg := row_cell e2 0
            refine wpOp_step rfl (fun K hK => ?_)
            clear hdep
            go_simp
            exact hK _ _ ⟨_, by simp [upd, e1], Below.refl _ _, rfl, trivial⟩
          · refine wpOp_step rfl (fun K hK => ?_)
            clear hdep
            go_simp
            exact hK _ _ ⟨_, rfl, Below.refl _ _, rfl, trivial⟩
          · have d7 : u' 48 = .pointer (some ⟨w.heap.size, 3, none⟩) := hdep _ rfl ⟨7, .data⟩ (by simp) rfl
            obtain ⟨y0, y1, y2, y3, y4⟩ := KS.out _ hbw
            refine wpOp_step rfl (fun K hK => ?_)
            clear hdep
            go_simp
            exact hK _ _ ⟨_, by simp [upd, d7], Below.refl _ _, rfl, trivial⟩
          · refine wpOp_step rfl (fun K hK => ?_)
            clear hdep
            go_simp
            exact hK _ _ ⟨_, rfl, Below.refl _ _, rfl, trivial⟩
          · have d8 : u' 49 = .slice (some ⟨b, o, none⟩) h.args.length c1 := hdep _ rfl ⟨8, .data⟩ (by simp) rfl
            have d9 : u' 50 = .int .i64 ((0 : Nat) : Int) := hdep _ rfl ⟨9, .data⟩ (by simp) rfl
            refine wpOp_step rfl (fun K hK => ?_)
            clear hdep
            go_simp
            exact hK _ _ ⟨_, by simp [upd, d8, d9], Below.refl _ _, rfl, trivial⟩
          · have d10 : u' 51 = .pointer (some ⟨b, o, none⟩) := hdep _ rfl ⟨10, .data⟩ (by simp) rfl
            refine wpOp_step rfl (fun K hK => ?_)
            clear hdep
            go_simp
            exact hK _ _ ⟨_, by simp [upd, d10], Below.refl _ _, rfl, trivial⟩
          · have d11 : u' 52 = .pointer (some ⟨b, o, none⟩) := hdep _ rfl ⟨11, .data⟩ (by simp) rfl
            obtain ⟨y0, y1, y2, y3, y4⟩ := KS.out _ hbw
            refine wpOp_step rfl (fun K hK => ?_)
            clear hdep
            go_simp
            exact hK _ _ ⟨_, by simp [upd, d11], Below.refl _ _, rfl, trivial⟩
          · have d6 : u' 47 = .string (⟨#[40]⟩ : ByteArray) := hdep _ rfl ⟨6, .data⟩ (by simp) rfl
            have d12 : u' 53 = .string h.args[0].nm := hdep _ rfl ⟨12, .data⟩ (by simp) rfl
            refine wpOp_step rfl (fun K hK => ?_)
            clear hdep
            go_simp
            exact hK _ _ ⟨_, by simp [upd, d6, d12], Below.refl _ _, rfl, trivial⟩
          · have d13 : u' 54 = .string ((⟨#[40]⟩ : ByteArray) ++ h.args[0].nm) := hdep _ rfl ⟨13, .data⟩ (by simp) rfl
            refine wpOp_step rfl (fun K hK => ?_)
            clear hdep
            go_simp
            exact hK _ _ ⟨_, by simp [upd, d13], Below.refl _ _, rfl, trivial⟩
          · refine wpOp_step rfl (fun K hK => ?_)
            clear hdep
            go_simp
            exact hK _ _ ⟨_, rfl, Below.refl _ _, rfl, trivial⟩
          · have d15 : u' 56 = .pointer (some ⟨w.heap.size, 3, none⟩) := hdep _ rfl ⟨15, .data⟩ (by simp) rfl
            obtain ⟨y0, y1, y2, y3, y4⟩ := KS.out _ hbw
            refine wpOp_step rfl (fun K hK => ?_)
            clear hdep
            go_simp
            exact hK _ _ ⟨_, by simp [upd, d15], Below.refl _ _, rfl, trivial⟩
          · refine wpOp_step rfl (fun K hK => ?_)
            clear hdep
            go_simp
            exact hK _ _ ⟨_, rfl, Below.refl _ _, rfl, trivial⟩
          · have d16 : u' 57 = .slice (some ⟨b, o, none⟩) h.args.length c1 := hdep _ rfl ⟨16, .data⟩ (by simp) rfl
            have d17 : u' 58 = .int .i64 ((0 : Nat) : Int) := hdep _ rfl ⟨17, .data⟩ (by simp) rfl
            refine wpOp_step rfl (fun K hK => ?_)
            clear hdep
            go_simp
            exact hK _ _ ⟨_, by simp [upd, d16, d17], Below.refl _ _, rfl, trivial⟩
          · have d18 : u' 59 = .pointer (some ⟨b, o, none⟩) := hdep _ rfl ⟨18, .data⟩ (by simp) rfl
            refine wpOp_step rfl (fun K hK => ?_)
            clear hdep
            go_simp
            exact hK _ _ ⟨_, by simp [upd, d18], Below.refl _ _, rfl, trivial⟩
          · have d19 : u' 60 = .pointer (some ⟨b, o + 1, none⟩) := hdep _ rfl ⟨19, .data⟩ (by simp) rfl
            obtain ⟨y0, y1, y2, y3, y4⟩ := KS.out _ hbw
            refine wpOp_step rfl (fun K hK => ?_)
            clear hdep
            go_simp
            exact hK _ _ ⟨_, by simp [upd, d19], Below.refl _ _, rfl, trivial⟩
          · have d20 : u' 61 = .agg #[.int .i64 h.args[0].v.k, .int .i64 h.args[0].v.n, .string h.args[0].v.t] := hdep _ rfl ⟨20, .data⟩ (by simp) rfl
            refine wpOp_step rfl (fun K hK => ?_)
            clear hdep
            go_simp
            refine (spec_value h.args[0].v _ HV.out).mono ?_
            rintro e w8 ⟨rfl, hb8⟩
            exact hK _ _ ⟨_, by simp [upd, d20], hb8, rfl, trivial⟩
          · have d14 : u' 55 = .string (((⟨#[40]⟩ : ByteArray) ++ h.args[0].nm) ++ (⟨#[58, 32]⟩ : ByteArray)) := hdep _ rfl ⟨14, .data⟩ (by simp) rfl
            have d21 : u' 62 = .string (bl (valP h.args[0].v)) := hdep _ rfl ⟨21, .data⟩ (by simp) rfl
            refine wpOp_step rfl (fun K hK => ?_)
            clear hdep
            go_simp
            exact hK _ _ ⟨_, by simp [upd, d14, d21], Below.refl _ _, rfl, trivial⟩
          · have d0 : u' 41 = .string u := hdep _ rfl ⟨0, .data⟩ (by simp) rfl
            have d22 : u' 63 = .string ((((⟨#[40]⟩ : ByteArray) ++ h.args[0].nm) ++ (⟨#[58, 32]⟩ : ByteArray)) ++ bl (valP h.args[0].v)) := hdep _ rfl ⟨22, .data⟩ (by simp) rfl
            refine wpOp_step rfl (fun K hK => ?_)
            clear hdep
            go_simp
            exact hK _ _ ⟨_, by simp [upd, d0, d22], Below.refl _ _, rfl, trivial⟩
        case last =>
          intro u' w2 hbw _ hp
          have d23 : u' 64 = _ := hp 23 (by omega)
          clear hp
          refine wpOp_step rfl (fun K hK => ?_)
          go_simp
          refine hK _ _ ?_
          clear hK K
          have HW : Hid (Below W.heap.size W w2) := hb.trans (hbw.mono hz)
          go_wp2_with fail
          go_roundw
          case rel => exact ⟨0 + 1, _, by omega, by first | rfl | go_num, rfl, HN, HW.out⟩
          case measure => simp [intOf]; omega
      · have h0p : 0 < k := by omega
        have hbi : decide (0 < (k : Int)) = true := by rw [decide_eq_true_eq]; omega
        have l1 : (⟨#[32]⟩ : ByteArray).size = 1 := rfl
        have l2 : (⟨#[58, 32]⟩ : ByteArray).size = 2 := rfl
        have lv := valP_len HV.out
        have ln : h.args[k].nm.size ≤ 40 := by have := HA.out; unfold arB at this; rw [Bool.and_eq_true] at this; exact name_len this.1
        have n0 : ¬ (9223372036854775807 < ((⟨#[32]⟩ : ByteArray)).size + (h.args[k].nm).size) := by (repeat rw [ByteArray.size_append]); (try rw [bl_size]); omega
        have n1 : ¬ (9223372036854775807 < (((⟨#[32]⟩ : ByteArray) ++ h.args[k].nm)).size + ((⟨#[58, 32]⟩ : ByteArray)).size) := by (repeat rw [ByteArray.size_append]); (try rw [bl_size]); omega
        have n2 : ¬ (9223372036854775807 < ((((⟨#[32]⟩ : ByteArray) ++ h.args[k].nm) ++ (⟨#[58, 32]⟩ : ByteArray))).size + (bl (valP h.args[k].v)).size) := by (repeat rw [ByteArray.size_append]); (try rw [bl_size]); omega
        have n3 : ¬ (9223372036854775807 < (u).size + (((((⟨#[32]⟩ : ByteArray) ++ h.args[k].nm) ++ (⟨#[58, 32]⟩ : ByteArray)) ++ bl (valP h.args[k].v))).size) := by (repeat rw [ByteArray.size_append]); (try rw [bl_size]); omega
        have m2 : ¬ (9223372036854775807 < (⟨#[32]⟩ : ByteArray).size + h.args[k].nm.size + (⟨#[58, 32]⟩ : ByteArray).size) := by omega
        have m3 : ¬ (9223372036854775807 < (⟨#[32]⟩ : ByteArray).size + h.args[k].nm.size + (⟨#[58, 32]⟩ : ByteArray).size + (bl (valP h.args[k].v)).size) := by rw [bl_size]; omega
        have m4 : ¬ (9223372036854775807 < u.size + ((⟨#[32]⟩ : ByteArray).size + h.args[k].nm.size + (⟨#[58, 32]⟩ : ByteArray).size + (bl (valP h.args[k].v)).size)) := by rw [bl_size]; omega
        have r1 : ¬ (9223372036854775807 < 1 + h.args[k].nm.size) := by omega
        have r2 : ¬ (9223372036854775807 < 1 + h.args[k].nm.size + 2) := by omega
        have r3 : ¬ (9223372036854775807 < 1 + h.args[k].nm.size + 2 + (bl (valP h.args[k].v)).size) := by rw [bl_size]; omega
        have r4 : ¬ (9223372036854775807 < u.size + (1 + h.args[k].nm.size + 2 + (bl (valP h.args[k].v)).size)) := by rw [bl_size]; omega
        have ha4 := HG.out.args
        have HN : Hid (nl (u ++ ((((⟨#[32]⟩ : ByteArray) ++ h.args[k].nm) ++ (⟨#[58, 32]⟩ : ByteArray)) ++ bl (valP h.args[k].v))) = headP h ++ aPre (h.args.take (k + 1))) := by
          unfold Hid
          rw [aPre_take hlt h0p, nl_app, nl_app, nl_app, nl_app, nl_bl, HU.out]
          simp [nl_lit, arP]
        have KS : Hid (∀ w', Below wr.heap.size wr w' → w'.cell? ⟨w.heap.size, 3, none⟩ = some (.slice (some ⟨b, o, none⟩) h.args.length c1) ∧ w'.cell? ⟨b, o + k * 4, none⟩ = some (.string h.args[k].nm) ∧ w'.cell? ⟨b, o + k * 4 + 1, none⟩ = some (.int .i64 h.args[k].v.k) ∧ w'.cell? ⟨b, o + k * 4 + 2, none⟩ = some (.int .i64 h.args[k].v.n) ∧ w'.cell? ⟨b, o + k * 4 + 3, none⟩ = some (.string h.args[k].v.t)) := fun w' hB =>
          ⟨(hB.cell (p := ⟨w.heap.size, 3, none⟩) (show w.heap.size < wr.heap.size by omega)).trans x3, (hB.cell (p := ⟨b, o + k * 4, none⟩) hbr).trans d0, (hB.cell (p := ⟨b, o + k * 4 + 1, none⟩) hbr).trans d1, (hB.cell (p := ⟨b, o + k * 4 + 2, none⟩) hbr).trans d2, (hB.cell (p := ⟨b, o + k * 4 + 3, none⟩) hbr).trans d3⟩
        clear l1 l2 lv ln su d0 d1 d2 d3 x0 x1 x2 x4 x5
        go_wp2_with fail
        refine region_rel (n := 24) (by kernel_rfl) (by kernel_rfl) (by kernel_rfl) (fun u' => ⟨#[.agg #[.int .i64 h.k, .string h.al, .string h.nm, .slice (some ⟨b, o, none⟩) h.args.length c1, .slice a2 h.dirs.length c2, .slice a3 sub.len c3], .pointer (some ⟨w.heap.size, 0, none⟩), .string ⟨#[]⟩, .string u, .int .i64 (k : Int), undef, .pointer (some ⟨w.heap.size, 2, none⟩), .string h.nm, u8, u9, u10, u11, u12, u13, u14, u15, u16, u17, u18, u19, u20, u21, u22, u23, u24, u25, u26, u27, u28, u29, u30, u31, u32, u33, .int .i64 (k : Int), .pointer (some ⟨w.heap.size, 3, none⟩), .slice (some ⟨b, o, none⟩) h.args.length c1, .int .i64 (h.args.length : Int), .bool true, u39, u40, u' 41, u' 42, u' 43, u' 44, u' 45, u' 46, u' 47, u' 48, u' 49, u' 50, u' 51, u' 52, u' 53, u' 54, u' 55, u' 56, u' 57, u' 58, u' 59, u' 60, u' 61, u' 62, u' 63, u' 64, undef, undef, undef, undef, undef, undef, undef, undef, undef, undef, undef, undef, undef, undef, undef, undef, undef, undef, undef, undef, undef, undef, undef, undef, undef, undef, undef, undef, undef, undef, undef, undef, undef, undef, undef, undef, undef, undef, undef, undef, undef, undef, undef, undef, undef, undef, undef], []⟩) (fun i => match i with | 41 => u41 | 42 => u42 | 43 => u43 | 44 => u44 | 45 => u45 | 46 => u46 | 47 => u47 | 48 => u48 | 49 => u49 | 50 => u50 | 51 => u51 | 52 => u52 | 53 => u53 | 54 => u54 | 55 => u55 | 56 => u56 | 57 => u57 | 58 => u58 | 59 => u59 | 60 => u60 | 61 => u61 | 62 => u62 | 63 => u63 | 64 => u64 | 3 => .string u | _ => undef) (fun i => i + 41) (fun i j _ _ h => by omega) (fun i v w2 => match i with | 0 => v = .string u | 1 => Sl2 w2 v ⟨#[40]⟩ ⟨#[32]⟩ | 2 => v = .int .i64 (k : Int) | 3 => v = .bool true | 4 => v = .int .i64 1 | 5 => Pt2 w2 v 1 ⟨#[40]⟩ ⟨#[32]⟩ | 6 => v = .string (⟨#[32]⟩ : ByteArray) | 7 => v = .pointer (some ⟨w.heap.size, 3, none⟩) | 8 => v = .slice (some ⟨b, o, none⟩) h.args.length c1 | 9 => v = .int .i64 (k : Int) | 10 => v = .pointer (some ⟨b, o + k * 4, none⟩) | 11 => v = .pointer (some ⟨b, o + k * 4, none⟩) | 12 => v = .string h.args[k].nm | 13 => v = .string ((⟨#[32]⟩ : ByteArray) ++ h.args[k].nm) | 14 => v = .string (((⟨#[32]⟩ : ByteArray) ++ h.args[k].nm) ++ (⟨#[58, 32]⟩ : ByteArray)) | 15 => v = .pointer (some ⟨w.heap.size, 3, none⟩) | 16 => v = .slice (some ⟨b, o, none⟩) h.args.length c1 | 17 => v = .int .i64 (k : Int) | 18 => v = .pointer (some ⟨b, o + k * 4, none⟩) | 19 => v = .pointer (some ⟨b, o + k * 4 + 1, none⟩) | 20 => v = .agg #[.int .i64 h.args[k].v.k, .int .i64 h.args[k].v.n, .string h.args[k].v.t] | 21 => v = .string (bl (valP h.args[k].v)) | 22 => v = .string ((((⟨#[32]⟩ : ByteArray) ++ h.args[k].nm) ++ (⟨#[58, 32]⟩ : ByteArray)) ++ bl (valP h.args[k].v)) | 23 => v = .string (u ++ ((((⟨#[32]⟩ : ByteArray) ++ h.args[k].nm) ++ (⟨#[58, 32]⟩ : ByteArray)) ++ bl (valP h.args[k].v))) | _ => True) (fun _ _ => True) ?up trivial ?step ?last
        case up =>
          intro i v w2 w3 hv hbb
          split at hv <;> first | exact hv | exact Sl2.up hv hbb | exact Pt2.up hv hbb
        case step =>
          intro u' w2 i hi hbw _ hdep
          have hcase : i = 0 ∨ i = 1 ∨ i = 2 ∨ i = 3 ∨ i = 4 ∨ i = 5 ∨ i = 6 ∨ i = 7 ∨ i = 8 ∨ i = 9 ∨ i = 10 ∨ i = 11 ∨ i = 12 ∨ i = 13 ∨ i = 14 ∨ i = 15 ∨ i = 16 ∨ i = 17 ∨ i = 18 ∨ i = 19 ∨ i = 20 ∨ i = 21 ∨ i = 22 ∨ i = 23 := by omega
          rcases hcase with rfl | rfl | rfl | rfl | rfl | rfl | rfl | rfl | rfl | rfl | rfl | rfl | rfl | rfl | rfl | rfl | rfl | rfl | rfl | rfl | rfl | rfl | rfl | rfl
          · refine wpOp_step rfl (fun K hK => ?_)
            clear hdep
            go_simp
            exact hK _ _ ⟨_, rfl, Below.refl _ _, rfl, trivial⟩
          · refine wpOp_step rfl (fun K hK => ?_)
            clear hdep
            go_simp
            exact hK _ _ ⟨.slice (some ⟨w2.heap.size, 0, none⟩) 2 2, rfl, (Below.refl _ _).alloc (Nat.le_refl _) _, ⟨w2.heap.size, rfl, heap_alloc_new _ _⟩, trivial⟩
          · refine wpOp_step rfl (fun K hK => ?_)
            clear hdep
            go_simp
            exact hK _ _ ⟨_, rfl, Below.refl _ _, rfl, trivial⟩
          · have d2 : u' 43 = .int .i64 (k : Int) := hdep _ rfl ⟨2, .data⟩ (by simp) rfl
            refine wpOp_step rfl (fun K hK => ?_)
            clear hdep
            go_simp
            exact hK _ _ ⟨_, by simp [upd, d2], Below.refl _ _, rfl, trivial⟩
          · have d3 : u' 44 = .bool true := hdep _ rfl ⟨3, .data⟩ (by simp) rfl
            refine wpOp_step rfl (fun K hK => ?_)
            clear hdep
            go_simp
            refine (spec_bit _ _).mono ?_
            rintro e w8 ⟨rfl, rfl⟩
            exact hK _ _ ⟨.int .i64 1, by simp [upd, d3], Below.refl _ _, rfl, trivial⟩
          · have d1 : Sl2 w2 (u' 42) ⟨#[40]⟩ ⟨#[32]⟩ := hdep _ rfl ⟨1, .data⟩ (by simp) rfl
            have d4 : u' 45 = .int .i64 1 := hdep _ rfl ⟨4, .data⟩ (by simp) rfl
            obtain ⟨g, e1, e2⟩ := d1
            refine wpOp_step rfl (fun K hK => ?_)
            clear hdep
            go_simp
            exact hK _ _ ⟨.pointer (some ⟨g, 1, none⟩), by simp [upd, e1, d4], Below.refl _ _, ⟨g, rfl, e2⟩, trivial⟩
          · have d5 : Pt2 w2 (u' 46) 1 ⟨#[40]⟩ ⟨#[32]⟩ := hdep _ rfl ⟨5, .data⟩ (by simp) rfl
            obtain ⟨g, e1, e2⟩ := d5
            have cg := row_cell e2 1
            refine wpOp_step rfl (fun K hK => ?_)
            clear hdep
            go_simp
            exact hK _ _ ⟨_, by simp [upd, e1], Below.refl _ _, rfl, trivial⟩
          · refine wpOp_step rfl (fun K hK => ?_)
            clear hdep
            go_simp
            exact hK _ _ ⟨_, rfl, Below.refl _ _, rfl, trivial⟩
          · have d7 : u' 48 = .pointer (some ⟨w.heap.size, 3, none⟩) := hdep _ rfl ⟨7, .data⟩ (by simp) rfl
            obtain ⟨y0, y1, y2, y3, y4⟩ := KS.out _ hbw
            refine wpOp_step rfl (fun K hK => ?_)
            clear hdep
            go_simp
            exact hK _ _ ⟨_, by simp [upd, d7], Below.refl _ _, rfl, trivial⟩
          · refine wpOp_step rfl (fun K hK => ?_)
            clear hdep
            go_simp
            exact hK _ _ ⟨_, rfl, Below.refl _ _, rfl, trivial⟩
          · have d8 : u' 49 = .slice (some ⟨b, o, none⟩) h.args.length c1 := hdep _ rfl ⟨8, .data⟩ (by simp) rfl
            have d9 : u' 50 = .int .i64 (k : Int) := hdep _ rfl ⟨9, .data⟩ (by simp) rfl
            refine wpOp_step rfl (fun K hK => ?_)
            clear hdep
            go_simp
            exact hK _ _ ⟨_, by simp [upd, d8, d9], Below.refl _ _, rfl, trivial⟩
          · have d10 : u' 51 = .pointer (some ⟨b, o + k * 4, none⟩) := hdep _ rfl ⟨10, .data⟩ (by simp) rfl
            refine wpOp_step rfl (fun K hK => ?_)
            clear hdep
            go_simp
            exact hK _ _ ⟨_, by simp [upd, d10], Below.refl _ _, rfl, trivial⟩
          · have d11 : u' 52 = .pointer (some ⟨b, o + k * 4, none⟩) := hdep _ rfl ⟨11, .data⟩ (by simp) rfl
            obtain ⟨y0, y1, y2, y3, y4⟩ := KS.out _ hbw
            refine wpOp_step rfl (fun K hK => ?_)
            clear hdep
            go_simp
            exact hK _ _ ⟨_, by simp [upd, d11], Below.refl _ _, rfl, trivial⟩
          · have d6 : u' 47 = .string (⟨#[32]⟩ : ByteArray) := hdep _ rfl ⟨6, .data⟩ (by simp) rfl
            have d12 : u' 53 = .string h.args[k].nm := hdep _ rfl ⟨12, .data⟩ (by simp) rfl
            refine wpOp_step rfl (fun K hK => ?_)
            clear hdep
            go_simp
            exact hK _ _ ⟨_, by simp [upd, d6, d12], Below.refl _ _, rfl, trivial⟩
          · have d13 : u' 54 = .string ((⟨#[32]⟩ : ByteArray) ++ h.args[k].nm) := hdep _ rfl ⟨13, .data⟩ (by simp) rfl
            refine wpOp_step rfl (fun K hK => ?_)
            clear hdep
            go_simp
            exact hK _ _ ⟨_, by simp [upd, d13], Below.refl _ _, rfl, trivial⟩
          · refine wpOp_step rfl (fun K hK => ?_)
            clear hdep
            go_simp
            exact hK _ _ ⟨_, rfl, Below.refl _ _, rfl, trivial⟩
          · have d15 : u' 56 = .pointer (some ⟨w.heap.size, 3, none⟩) := hdep _ rfl ⟨15, .data⟩ (by simp) rfl
            obtain ⟨y0, y1, y2, y3, y4⟩ := KS.out _ hbw
            refine wpOp_step rfl (fun K hK => ?_)
            clear hdep
            go_simp
            exact hK _ _ ⟨_, by simp [upd, d15], Below.refl _ _, rfl, trivial⟩
          · refine wpOp_step rfl (fun K hK => ?_)
            clear hdep
            go_simp
            exact hK _ _ ⟨_, rfl, Below.refl _ _, rfl, trivial⟩
          · have d16 : u' 57 = .slice (some ⟨b, o, none⟩) h.args.length c1 := hdep _ rfl ⟨16, .data⟩ (by simp) rfl
            have d17 : u' 58 = .int .i64 (k : Int) := hdep _ rfl ⟨17, .data⟩ (by simp) rfl
            refine wpOp_step rfl (fun K hK => ?_)
            clear hdep
            go_simp
            exact hK _ _ ⟨_, by simp [upd, d16, d17], Below.refl _ _, rfl, trivial⟩
          · have d18 : u' 59 = .pointer (some ⟨b, o + k * 4, none⟩) := hdep _ rfl ⟨18, .data⟩ (by simp) rfl
            refine wpOp_step rfl (fun K hK => ?_)
            clear hdep
            go_simp
            exact hK _ _ ⟨_, by simp [upd, d18], Below.refl _ _, rfl, trivial⟩
          · have d19 : u' 60 = .pointer (some ⟨b, o + k * 4 + 1, none⟩) := hdep _ rfl ⟨19, .data⟩ (by simp) rfl
            obtain ⟨y0, y1, y2, y3, y4⟩ := KS.out _ hbw
            refine wpOp_step rfl (fun K hK => ?_)
            clear hdep
            go_simp
            exact hK _ _ ⟨_, by simp [upd, d19], Below.refl _ _, rfl, trivial⟩
          · have d20 : u' 61 = .agg #[.int .i64 h.args[k].v.k, .int .i64 h.args[k].v.n, .string h.args[k].v.t] := hdep _ rfl ⟨20, .data⟩ (by simp) rfl
            refine wpOp_step rfl (fun K hK => ?_)
            clear hdep
            go_simp
            refine (spec_value h.args[k].v _ HV.out).mono ?_
            rintro e w8 ⟨rfl, hb8⟩
            exact hK _ _ ⟨_, by simp [upd, d20], hb8, rfl, trivial⟩
          · have d14 : u' 55 = .string (((⟨#[32]⟩ : ByteArray) ++ h.args[k].nm) ++ (⟨#[58, 32]⟩ : ByteArray)) := hdep _ rfl ⟨14, .data⟩ (by simp) rfl
            have d21 : u' 62 = .string (bl (valP h.args[k].v)) := hdep _ rfl ⟨21, .data⟩ (by simp) rfl
            refine wpOp_step rfl (fun K hK => ?_)
            clear hdep
            go_simp
            exact hK _ _ ⟨_, by simp [upd, d14, d21], Below.refl _ _, rfl, trivial⟩
          · have d0 : u' 41 = .string u := hdep _ rfl ⟨0, .data⟩ (by simp) rfl
            have d22 : u' 63 = .string ((((⟨#[32]⟩ : ByteArray) ++ h.args[k].nm) ++ (⟨#[58, 32]⟩ : ByteArray)) ++ bl (valP h.args[k].v)) := hdep _ rfl ⟨22, .data⟩ (by simp) rfl
            refine wpOp_step rfl (fun K hK => ?_)
            clear hdep
            go_simp
            exact hK _ _ ⟨_, by simp [upd, d0, d22], Below.refl _ _, rfl, trivial⟩
        case last =>
          intro u' w2 hbw _ hp
          have d23 : u' 64 = _ := hp 23 (by omega)
          clear hp
          refine wpOp_step rfl (fun K hK => ?_)
          go_simp
          refine hK _ _ ?_
          clear hK K
          have HW : Hid (Below W.heap.size W w2) := hb.trans (hbw.mono hz)
          go_wp2_with fail
          go_roundw
          case rel => exact ⟨k + 1, _, by omega, by first | rfl | go_num, rfl, HN, HW.out⟩
          case measure => simp [intOf]; omega
    · obtain rfl : k = h.args.length := by omega
      have HU2 : Hid (nl u = headP h ++ aPre h.args) := by have := HU.out; rwa [List.take_length] at this
      have HB2 : Hid (Below W.heap.size W wr) := hb
      clear HU hb hk
      go_upto_if 68 with fail
      go_cut [3] from 34 to 70 (fun s wx => s = .string (bl (headP h ++ argsP h.args)) ∧ wx = wr)
      case first =>
        by_cases h0 : h.args = []
        · have hn : ¬ (0 < h.args.length) := by rw [h0]; simp
          have HP : Hid (u = bl (headP h ++ argsP h.args)) := by
            refine bl_of ?_
            rw [HU2.out, h0]; rfl
          clear h0
          go_wp2_with fail
          go_meet
          exact ⟨by rw [← HP.out], rfl⟩
        · have hn : 0 < h.args.length := List.length_pos_iff.2 h0
          have l1 : (⟨#[41]⟩ : ByteArray).size = 1 := rfl
          have r1 : ¬ (9223372036854775807 < u.size + (⟨#[41]⟩ : ByteArray).size) := by omega
          have r2 : ¬ (9223372036854775807 < u.size + 1) := by omega
          have HP : Hid (u ++ (⟨#[41]⟩ : ByteArray) = bl (headP h ++ argsP h.args)) := by
            refine bl_of ?_
            rw [nl_app, HU2.out, argsP_eq _ h0]; simp [nl_lit]
          clear h0 l1
          go_wp2_with fail
          go_meet
          exact ⟨by rw [HP.out], rfl⟩
      obtain ⟨rfl, hwc⟩ := hcut
      obtain rfl := hwc.symm
      obtain ⟨W2, rfl⟩ : ∃ X, X = wr := ⟨wr, rfl⟩
      clear HU2 su x0 x1 x2 x3 x4 x5 hlt
      go_wp2_with fail
      go_loopw [3, 5] (fun s i w' => ∃ (k : Nat) (u : ByteArray), k ≤ h.dirs.length ∧ i = .int .i64 k ∧ s = .string u ∧ Hid (nl u = headP h ++ (argsP h.args ++ dirsP (h.dirs.take k))) ∧ Below W.heap.size W w') (fun _ i _ => h.dirs.length - (intOf i).toNat)
      case atStart => exact ⟨0, _, by omega, rfl, rfl, by unfold Hid; rw [nl_bl]; simp [dirsP], HB2.out⟩
      case round =>
        rename_i wr
        obtain ⟨k, u, hk, rfl, rfl, HU, hb⟩ := hrel
        obtain ⟨x0, x1, x2, x3, x4, x5⟩ := HX.out _ hb
        have hz := hb.size
        have su : u.size ≤ 1000 := by
          have h1 := headP_len HG.out
          have h2 := argsP_len HG.out.arB HG.out.args
          have h4 := dirsP_len (l := h.dirs.take k) (fun x hx => HG.out.diB x (List.mem_of_mem_take hx))
          have h3 := HG.out.dirs
          rw [← nl_len, HU.out, List.length_append, List.length_append]
          rw [List.length_take] at h4
          omega
        by_cases hlt : k < h.dirs.length
        · obtain ⟨b, o, ha, _, hbl, d0, d1, d2, d3⟩ := Row.cells_di (Row.keep R2.out (Below.agree hb (Nat.le_refl _))) k hlt
          subst ha
          have hbr : b < wr.heap.size := by omega
          have HV : Hid (valB h.dirs[k].v = true) := HG.out.diB _ (List.getElem_mem hlt)
          cases hsk : h.dirs[k].sk
          · rw [hsk] at d0
            have lv := valP_len HV.out
            have lb := bl_size (valP h.dirs[k].v)
            have q1 : (⟨#[32, 64]⟩ : ByteArray).size = 2 := rfl
            have q2 : (⟨#[105, 110, 99, 108, 117, 100, 101]⟩ : ByteArray).size = 7 := rfl
            have q3 : (⟨#[40, 105, 102, 58, 32]⟩ : ByteArray).size = 5 := rfl
            have q4 : (⟨#[41]⟩ : ByteArray).size = 1 := rfl
            have r1 : ¬ (9223372036854775807 < (((⟨#[32, 64]⟩ : ByteArray) ++ (⟨#[105, 110, 99, 108, 117, 100, 101]⟩ : ByteArray)) ++ (⟨#[40, 105, 102, 58, 32]⟩ : ByteArray)).size + (bl (valP h.dirs[k].v)).size) := by rw [ByteArray.size_append, ByteArray.size_append]; omega
            have r2 : ¬ (9223372036854775807 < ((((⟨#[32, 64]⟩ : ByteArray) ++ (⟨#[105, 110, 99, 108, 117, 100, 101]⟩ : ByteArray)) ++ (⟨#[40, 105, 102, 58, 32]⟩ : ByteArray)) ++ bl (valP h.dirs[k].v)).size + (⟨#[41]⟩ : ByteArray).size) := by rw [ByteArray.size_append, ByteArray.size_append, ByteArray.size_append]; omega
            have r3 : ¬ (9223372036854775807 < u.size + (((((⟨#[32, 64]⟩ : ByteArray) ++ (⟨#[105, 110, 99, 108, 117, 100, 101]⟩ : ByteArray)) ++ (⟨#[40, 105, 102, 58, 32]⟩ : ByteArray)) ++ bl (valP h.dirs[k].v)) ++ (⟨#[41]⟩ : ByteArray)).size) := by rw [ByteArray.size_append, ByteArray.size_append, ByteArray.size_append, ByteArray.size_append]; omega
            have r4 : ¬ (9223372036854775807 < 2 + 7 + 5 + (bl (valP h.dirs[k].v)).size) := by omega
            have r5 : ¬ (9223372036854775807 < 2 + 7 + 5 + (bl (valP h.dirs[k].v)).size + 1) := by omega
            have r6 : ¬ (9223372036854775807 < u.size + (2 + 7 + 5 + (bl (valP h.dirs[k].v)).size + 1)) := by omega
            have r7 : ¬ (9223372036854775807 < 14 + (bl (valP h.dirs[k].v)).size) := by omega
            have r8 : ¬ (9223372036854775807 < 14 + (bl (valP h.dirs[k].v)).size + 1) := by omega
            have r9 : ¬ (9223372036854775807 < u.size + (14 + (bl (valP h.dirs[k].v)).size + 1)) := by omega
            have HN : Hid (nl (u ++ (((((⟨#[32, 64]⟩ : ByteArray) ++ (⟨#[105, 110, 99, 108, 117, 100, 101]⟩ : ByteArray)) ++ (⟨#[40, 105, 102, 58, 32]⟩ : ByteArray)) ++ bl (valP h.dirs[k].v)) ++ (⟨#[41]⟩ : ByteArray))) = headP h ++ (argsP h.args ++ dirsP (h.dirs.take (k + 1)))) := by
              unfold Hid
              rw [dirsP_take hlt, nl_app, nl_app, nl_app, nl_app, nl_app, nl_bl, HU.out]
              simp [nl_lit, diP, wordP, hsk]
            have KS : Hid (∀ w', Below wr.heap.size wr w' → w'.cell? ⟨w.heap.size, 4, none⟩ = some (.slice (some ⟨b, o, none⟩) h.dirs.length c2) ∧ w'.cell? ⟨b, o + k * 4, none⟩ = some (.bool false) ∧ w'.cell? ⟨b, o + k * 4 + 1, none⟩ = some (.int .i64 h.dirs[k].v.k) ∧ w'.cell? ⟨b, o + k * 4 + 2, none⟩ = some (.int .i64 h.dirs[k].v.n) ∧ w'.cell? ⟨b, o + k * 4 + 3, none⟩ = some (.string h.dirs[k].v.t)) := fun w' hB =>
              ⟨(hB.cell (p := ⟨w.heap.size, 4, none⟩) (show w.heap.size < wr.heap.size by omega)).trans x4, (hB.cell (p := ⟨b, o + k * 4, none⟩) hbr).trans d0, (hB.cell (p := ⟨b, o + k * 4 + 1, none⟩) hbr).trans d1, (hB.cell (p := ⟨b, o + k * 4 + 2, none⟩) hbr).trans d2, (hB.cell (p := ⟨b, o + k * 4 + 3, none⟩) hbr).trans d3⟩
            clear lv su d0 d1 d2 d3 x0 x1 x2 x3 x5 q1 q2 q3 q4 lb
            have hd4 := HG.out.dirs
            go_wp2_with fail
            refine region_rel (n := 23) (by kernel_rfl) (by kernel_rfl) (by kernel_rfl) (fun u' => ⟨#[.agg #[.int .i64 h.k, .string h.al, .string h.nm, .slice a1 h.args.length c1, .slice (some ⟨b, o, none⟩) h.dirs.length c2, .slice a3 sub.len c3], .pointer (some ⟨w.heap.size, 0, none⟩), .string ⟨#[]⟩, .string u, .int .i64 (h.args.length : Int), .int .i64 (k : Int), .pointer (some ⟨w.heap.size, 2, none⟩), .string h.nm, u8, u9, u10, u11, u12, u13, u14, u15, u16, u17, u18, u19, u20, u21, u22, u23, u24, u25, u26, u27, u28, u29, u30, u31, u32, u33, u34, u35, u36, u37, u38, u39, u40, u41, u42, u43, u44, u45, u46, u47, u48, u49, u50, u51, u52, u53, u54, u55, u56, u57, u58, u59, u60, u61, u62, u63, u64, u65, u66, u67, u68, u69, u70, .int .i64 (k : Int), .pointer (some ⟨w.heap.size, 4, none⟩), .slice (some ⟨b, o, none⟩) h.dirs.length c2, .int .i64 (h.dirs.length : Int), .bool true, u76, u77, u' 78, u' 79, u' 80, u' 81, u' 82, u' 83, u' 84, u' 85, u' 86, u' 87, u' 88, u' 89, u' 90, u' 91, u' 92, u' 93, u' 94, u' 95, u' 96, u' 97, u' 98, u' 99, u' 100, undef, undef, undef, undef, undef, undef, undef, undef, undef, undef, undef], []⟩) (fun i => match i with | 78 => u78 | 79 => u79 | 80 => u80 | 81 => u81 | 82 => u82 | 83 => u83 | 84 => u84 | 85 => u85 | 86 => u86 | 87 => u87 | 88 => u88 | 89 => u89 | 90 => u90 | 91 => u91 | 92 => u92 | 93 => u93 | 94 => u94 | 95 => u95 | 96 => u96 | 97 => u97 | 98 => u98 | 99 => u99 | 100 => u100 | 3 => .string u | _ => undef) (fun i => i + 78) (fun i j _ _ h => by omega) (fun i v w2 => match i with | 0 => v = .string u | 1 => Sl2 w2 v ⟨#[105, 110, 99, 108, 117, 100, 101]⟩ ⟨#[115, 107, 105, 112]⟩ | 2 => v = .pointer (some ⟨w.heap.size, 4, none⟩) | 3 => v = .slice (some ⟨b, o, none⟩) h.dirs.length c2 | 4 => v = .int .i64 (k : Int) | 5 => v = .pointer (some ⟨b, o + k * 4, none⟩) | 6 => v = .pointer (some ⟨b, o + k * 4, none⟩) | 7 => v = .bool false | 8 => v = .int .i64 0 | 9 => Pt2 w2 v 0 ⟨#[105, 110, 99, 108, 117, 100, 101]⟩ ⟨#[115, 107, 105, 112]⟩ | 10 => v = .string (⟨#[105, 110, 99, 108, 117, 100, 101]⟩ : ByteArray) | 11 => v = .string ((⟨#[32, 64]⟩ : ByteArray) ++ (⟨#[105, 110, 99, 108, 117, 100, 101]⟩ : ByteArray)) | 12 => v = .string (((⟨#[32, 64]⟩ : ByteArray) ++ (⟨#[105, 110, 99, 108, 117, 100, 101]⟩ : ByteArray)) ++ (⟨#[40, 105, 102, 58, 32]⟩ : ByteArray)) | 13 => v = .pointer (some ⟨w.heap.size, 4, none⟩) | 14 => v = .slice (some ⟨b, o, none⟩) h.dirs.length c2 | 15 => v = .int .i64 (k : Int) | 16 => v = .pointer (some ⟨b, o + k * 4, none⟩) | 17 => v = .pointer (some ⟨b, o + k * 4 + 1, none⟩) | 18 => v = .agg #[.int .i64 h.dirs[k].v.k, .int .i64 h.dirs[k].v.n, .string h.dirs[k].v.t] | 19 => v = .string (bl (valP h.dirs[k].v)) | 20 => v = .string ((((⟨#[32, 64]⟩ : ByteArray) ++ (⟨#[105, 110, 99, 108, 117, 100, 101]⟩ : ByteArray)) ++ (⟨#[40, 105, 102, 58, 32]⟩ : ByteArray)) ++ bl (valP h.dirs[k].v)) | 21 => v = .string (((((⟨#[32, 64]⟩ : ByteArray) ++ (⟨#[105, 110, 99, 108, 117, 100, 101]⟩ : ByteArray)) ++ (⟨#[40, 105, 102, 58, 32]⟩ : ByteArray)) ++ bl (valP h.dirs[k].v)) ++ (⟨#[41]⟩ : ByteArray)) | 22 => v = .string (u ++ (((((⟨#[32, 64]⟩ : ByteArray) ++ (⟨#[105, 110, 99, 108, 117, 100, 101]⟩ : ByteArray)) ++ (⟨#[40, 105, 102, 58, 32]⟩ : ByteArray)) ++ bl (valP h.dirs[k].v)) ++ (⟨#[41]⟩ : ByteArray))) | _ => True) (fun _ _ => True) ?up trivial ?step ?last
            case up =>
              intro i v w2 w3 hv hbb
              split at hv <;> first | exact hv | exact Sl2.up hv hbb | exact Pt2.up hv hbb
            case step =>
              intro u' w2 i hi hbw _ hdep
              have hcase : i = 0 ∨ i = 1 ∨ i = 2 ∨ i = 3 ∨ i = 4 ∨ i = 5 ∨ i = 6 ∨ i = 7 ∨ i = 8 ∨ i = 9 ∨ i = 10 ∨ i = 11 ∨ i = 12 ∨ i = 13 ∨ i = 14 ∨ i = 15 ∨ i = 16 ∨ i = 17 ∨ i = 18 ∨ i = 19 ∨ i = 20 ∨ i = 21 ∨ i = 22 := by omega
              rcases hcase with rfl | rfl | rfl | rfl | rfl | rfl | rfl | rfl | rfl | rfl | rfl | rfl | rfl | rfl | rfl | rfl | rfl | rfl | rfl | rfl | rfl | rfl | rfl
              · refine wpOp_step rfl (fun K hK => ?_)
                clear hdep
                go_simp
                exact hK _ _ ⟨_, rfl, Below.refl _ _, rfl, trivial⟩
              · refine wpOp_step rfl (fun K hK => ?_)
                clear hdep
                go_simp
                exact hK _ _ ⟨.slice (some ⟨w2.heap.size, 0, none⟩) 2 2, rfl, (Below.refl _ _).alloc (Nat.le_refl _) _, ⟨w2.heap.size, rfl, heap_alloc_new _ _⟩, trivial⟩
              · refine wpOp_step rfl (fun K hK => ?_)
                clear hdep
                go_simp
                exact hK _ _ ⟨_, rfl, Below.refl _ _, rfl, trivial⟩
              · have d2 : u' 80 = .pointer (some ⟨w.heap.size, 4, none⟩) := hdep _ rfl ⟨2, .data⟩ (by simp) rfl
                obtain ⟨y0, y1, y2, y3, y4⟩ := KS.out _ hbw
                refine wpOp_step rfl (fun K hK => ?_)
                clear hdep
                go_simp
                exact hK _ _ ⟨_, by simp [upd, d2], Below.refl _ _, rfl, trivial⟩
              · refine wpOp_step rfl (fun K hK => ?_)
                clear hdep
                go_simp
                exact hK _ _ ⟨_, rfl, Below.refl _ _, rfl, trivial⟩
              · have d3 : u' 81 = .slice (some ⟨b, o, none⟩) h.dirs.length c2 := hdep _ rfl ⟨3, .data⟩ (by simp) rfl
                have d4 : u' 82 = .int .i64 (k : Int) := hdep _ rfl ⟨4, .data⟩ (by simp) rfl
                refine wpOp_step rfl (fun K hK => ?_)
                clear hdep
                go_simp
                exact hK _ _ ⟨_, by simp [upd, d3, d4], Below.refl _ _, rfl, trivial⟩
              · have d5 : u' 83 = .pointer (some ⟨b, o + k * 4, none⟩) := hdep _ rfl ⟨5, .data⟩ (by simp) rfl
                refine wpOp_step rfl (fun K hK => ?_)
                clear hdep
                go_simp
                exact hK _ _ ⟨_, by simp [upd, d5], Below.refl _ _, rfl, trivial⟩
              · have d6 : u' 84 = .pointer (some ⟨b, o + k * 4, none⟩) := hdep _ rfl ⟨6, .data⟩ (by simp) rfl
                obtain ⟨y0, y1, y2, y3, y4⟩ := KS.out _ hbw
                refine wpOp_step rfl (fun K hK => ?_)
                clear hdep
                go_simp
                exact hK _ _ ⟨_, by simp [upd, d6], Below.refl _ _, rfl, trivial⟩
              · have d7 : u' 85 = .bool false := hdep _ rfl ⟨7, .data⟩ (by simp) rfl
                refine wpOp_step rfl (fun K hK => ?_)
                clear hdep
                go_simp
                refine (spec_bit _ _).mono ?_
                rintro e w8 ⟨rfl, rfl⟩
                exact hK _ _ ⟨.int .i64 0, by simp [upd, d7], Below.refl _ _, rfl, trivial⟩
              · have d1 : Sl2 w2 (u' 79) ⟨#[105, 110, 99, 108, 117, 100, 101]⟩ ⟨#[115, 107, 105, 112]⟩ := hdep _ rfl ⟨1, .data⟩ (by simp) rfl
                have d8 : u' 86 = .int .i64 0 := hdep _ rfl ⟨8, .data⟩ (by simp) rfl
                obtain ⟨g, e1, e2⟩ := d1
                refine wpOp_step rfl (fun K hK => ?_)
                clear hdep
                go_simp
                exact hK _ _ ⟨.pointer (some ⟨g, 0, none⟩), by simp [upd, e1, d8], Below.refl _ _, ⟨g, rfl, e2⟩, trivial⟩
              · have d9 : Pt2 w2 (u' 87) 0 ⟨#[105, 110, 99, 108, 117, 100, 101]⟩ ⟨#[115, 107, 105, 112]⟩ := hdep _ rfl ⟨9, .data⟩ (by simp) rfl
                obtain ⟨g, e1, e2⟩ := d9
                have cg := row_cell e2 0
                refine wpOp_step rfl (fun K hK => ?_)
                clear hdep
                go_simp
                exact hK _ _ ⟨_, by simp [upd, e1], Below.refl _ _, rfl, trivial⟩
              · have d10 : u' 88 = .string (⟨#[105, 110, 99, 108, 117, 100, 101]⟩ : ByteArray) := hdep _ rfl ⟨10, .data⟩ (by simp) rfl
                refine wpOp_step rfl (fun K hK => ?_)
                clear hdep
                go_simp
                exact hK _ _ ⟨_, by simp [upd, d10], Below.refl _ _, rfl, trivial⟩
              · have d11 : u' 89 = .string ((⟨#[32, 64]⟩ : ByteArray) ++ (⟨#[105, 110, 99, 108, 117, 100, 101]⟩ : ByteArray)) := hdep _ rfl ⟨11, .data⟩ (by simp) rfl
                refine wpOp_step rfl (fun K hK => ?_)
                clear hdep
                go_simp
                exact hK _ _ ⟨_, by simp [upd, d11], Below.refl _ _, rfl, trivial⟩
              · refine wpOp_step rfl (fun K hK => ?_)
                clear hdep
                go_simp
                exact hK _ _ ⟨_, rfl, Below.refl _ _, rfl, trivial⟩
              · have d13 : u' 91 = .pointer (some ⟨w.heap.size, 4, none⟩) := hdep _ rfl ⟨13, .data⟩ (by simp) rfl
                obtain ⟨y0, y1, y2, y3, y4⟩ := KS.out _ hbw
                refine wpOp_step rfl (fun K hK => ?_)
                clear hdep
                go_simp
                exact hK _ _ ⟨_, by simp [upd, d13], Below.refl _ _, rfl, trivial⟩
              · refine wpOp_step rfl (fun K hK => ?_)
                clear hdep
                go_simp
                exact hK _ _ ⟨_, rfl, Below.refl _ _, rfl, trivial⟩
              · have d14 : u' 92 = .slice (some ⟨b, o, none⟩) h.dirs.length c2 := hdep _ rfl ⟨14, .data⟩ (by simp) rfl
                have d15 : u' 93 = .int .i64 (k : Int) := hdep _ rfl ⟨15, .data⟩ (by simp) rfl
                refine wpOp_step rfl (fun K hK => ?_)
                clear hdep
                go_simp
                exact hK _ _ ⟨_, by simp [upd, d14, d15], Below.refl _ _, rfl, trivial⟩
              · have d16 : u' 94 = .pointer (some ⟨b, o + k * 4, none⟩) := hdep _ rfl ⟨16, .data⟩ (by simp) rfl
                refine wpOp_step rfl (fun K hK => ?_)
                clear hdep
                go_simp
                exact hK _ _ ⟨_, by simp [upd, d16], Below.refl _ _, rfl, trivial⟩
              · have d17 : u' 95 = .pointer (some ⟨b, o + k * 4 + 1, none⟩) := hdep _ rfl ⟨17, .data⟩ (by simp) rfl
                obtain ⟨y0, y1, y2, y3, y4⟩ := KS.out _ hbw
                refine wpOp_step rfl (fun K hK => ?_)
                clear hdep
                go_simp
                exact hK _ _ ⟨_, by simp [upd, d17], Below.refl _ _, rfl, trivial⟩
              · have d18 : u' 96 = .agg #[.int .i64 h.dirs[k].v.k, .int .i64 h.dirs[k].v.n, .string h.dirs[k].v.t] := hdep _ rfl ⟨18, .data⟩ (by simp) rfl
                refine wpOp_step rfl (fun K hK => ?_)
                clear hdep
                go_simp
                refine (spec_value h.dirs[k].v _ HV.out).mono ?_
                rintro e w8 ⟨rfl, hb8⟩
                exact hK _ _ ⟨_, by simp [upd, d18], hb8, rfl, trivial⟩
              · have d12 : u' 90 = .string (((⟨#[32, 64]⟩ : ByteArray) ++ (⟨#[105, 110, 99, 108, 117, 100, 101]⟩ : ByteArray)) ++ (⟨#[40, 105, 102, 58, 32]⟩ : ByteArray)) := hdep _ rfl ⟨12, .data⟩ (by simp) rfl
                have d19 : u' 97 = .string (bl (valP h.dirs[k].v)) := hdep _ rfl ⟨19, .data⟩ (by simp) rfl
                refine wpOp_step rfl (fun K hK => ?_)
                clear hdep
                go_simp
                exact hK _ _ ⟨_, by simp [upd, d12, d19], Below.refl _ _, rfl, trivial⟩
              · have d20 : u' 98 = .string ((((⟨#[32, 64]⟩ : ByteArray) ++ (⟨#[105, 110, 99, 108, 117, 100, 101]⟩ : ByteArray)) ++ (⟨#[40, 105, 102, 58, 32]⟩ : ByteArray)) ++ bl (valP h.dirs[k].v)) := hdep _ rfl ⟨20, .data⟩ (by simp) rfl
                refine wpOp_step rfl (fun K hK => ?_)
                clear hdep
                go_simp
                exact hK _ _ ⟨_, by simp [upd, d20], Below.refl _ _, rfl, trivial⟩
              · have d0 : u' 78 = .string u := hdep _ rfl ⟨0, .data⟩ (by simp) rfl
                have d21 : u' 99 = .string (((((⟨#[32, 64]⟩ : ByteArray) ++ (⟨#[105, 110, 99, 108, 117, 100, 101]⟩ : ByteArray)) ++ (⟨#[40, 105, 102, 58, 32]⟩ : ByteArray)) ++ bl (valP h.dirs[k].v)) ++ (⟨#[41]⟩ : ByteArray)) := hdep _ rfl ⟨21, .data⟩ (by simp) rfl
                refine wpOp_step rfl (fun K hK => ?_)
                clear hdep
                go_simp
                exact hK _ _ ⟨_, by simp [upd, d0, d21], Below.refl _ _, rfl, trivial⟩
            case last =>
              intro u' w2 hbw _ hp
              have d22 : u' 100 = _ := hp 22 (by omega)
              clear hp
              refine wpOp_step rfl (fun K hK => ?_)
              go_simp
              refine hK _ _ ?_
              clear hK K
              have HW : Hid (Below W.heap.size W w2) := hb.trans (hbw.mono hz)
              go_wp2_with fail
              go_roundw
              case rel => exact ⟨k + 1, _, by omega, by first | rfl | go_num, rfl, HN, HW.out⟩
              case measure => simp [intOf]; omega
          · rw [hsk] at d0
            have lv := valP_len HV.out
            have lb := bl_size (valP h.dirs[k].v)
            have q1 : (⟨#[32, 64]⟩ : ByteArray).size = 2 := rfl
            have q2 : (⟨#[115, 107, 105, 112]⟩ : ByteArray).size = 4 := rfl
            have q3 : (⟨#[40, 105, 102, 58, 32]⟩ : ByteArray).size = 5 := rfl
            have q4 : (⟨#[41]⟩ : ByteArray).size = 1 := rfl
            have r1 : ¬ (9223372036854775807 < (((⟨#[32, 64]⟩ : ByteArray) ++ (⟨#[115, 107, 105, 112]⟩ : ByteArray)) ++ (⟨#[40, 105, 102, 58, 32]⟩ : ByteArray)).size + (bl (valP h.dirs[k].v)).size) := by rw [ByteArray.size_append, ByteArray.size_append]; omega
            have r2 : ¬ (9223372036854775807 < ((((⟨#[32, 64]⟩ : ByteArray) ++ (⟨#[115, 107, 105, 112]⟩ : ByteArray)) ++ (⟨#[40, 105, 102, 58, 32]⟩ : ByteArray)) ++ bl (valP h.dirs[k].v)).size + (⟨#[41]⟩ : ByteArray).size) := by rw [ByteArray.size_append, ByteArray.size_append, ByteArray.size_append]; omega
            have r3 : ¬ (9223372036854775807 < u.size + (((((⟨#[32, 64]⟩ : ByteArray) ++ (⟨#[115, 107, 105, 112]⟩ : ByteArray)) ++ (⟨#[40, 105, 102, 58, 32]⟩ : ByteArray)) ++ bl (valP h.dirs[k].v)) ++ (⟨#[41]⟩ : ByteArray)).size) := by rw [ByteArray.size_append, ByteArray.size_append, ByteArray.size_append, ByteArray.size_append]; omega
            have r4 : ¬ (9223372036854775807 < 2 + 4 + 5 + (bl (valP h.dirs[k].v)).size) := by omega
            have r5 : ¬ (9223372036854775807 < 2 + 4 + 5 + (bl (valP h.dirs[k].v)).size + 1) := by omega
            have r6 : ¬ (9223372036854775807 < u.size + (2 + 4 + 5 + (bl (valP h.dirs[k].v)).size + 1)) := by omega
            have r7 : ¬ (9223372036854775807 < 11 + (bl (valP h.dirs[k].v)).size) := by omega
            have r8 : ¬ (9223372036854775807 < 11 + (bl (valP h.dirs[k].v)).size + 1) := by omega
            have r9 : ¬ (9223372036854775807 < u.size + (11 + (bl (valP h.dirs[k].v)).size + 1)) := by omega
            have HN : Hid (nl (u ++ (((((⟨#[32, 64]⟩ : ByteArray) ++ (⟨#[115, 107, 105, 112]⟩ : ByteArray)) ++ (⟨#[40, 105, 102, 58, 32]⟩ : ByteArray)) ++ bl (valP h.dirs[k].v)) ++ (⟨#[41]⟩ : ByteArray))) = headP h ++ (argsP h.args ++ dirsP (h.dirs.take (k + 1)))) := by
              unfold Hid
              rw [dirsP_take hlt, nl_app, nl_app, nl_app, nl_app, nl_app, nl_bl, HU.out]
              simp [nl_lit, diP, wordP, hsk]
            have KS : Hid (∀ w', Below wr.heap.size wr w' → w'.cell? ⟨w.heap.size, 4, none⟩ = some (.slice (some ⟨b, o, none⟩) h.dirs.length c2) ∧ w'.cell? ⟨b, o + k * 4, none⟩ = some (.bool true) ∧ w'.cell? ⟨b, o + k * 4 + 1, none⟩ = some (.int .i64 h.dirs[k].v.k) ∧ w'.cell? ⟨b, o + k * 4 + 2, none⟩ = some (.int .i64 h.dirs[k].v.n) ∧ w'.cell? ⟨b, o + k * 4 + 3, none⟩ = some (.string h.dirs[k].v.t)) := fun w' hB =>
              ⟨(hB.cell (p := ⟨w.heap.size, 4, none⟩) (show w.heap.size < wr.heap.size by omega)).trans x4, (hB.cell (p := ⟨b, o + k * 4, none⟩) hbr).trans d0, (hB.cell (p := ⟨b, o + k * 4 + 1, none⟩) hbr).trans d1, (hB.cell (p := ⟨b, o + k * 4 + 2, none⟩) hbr).trans d2, (hB.cell (p := ⟨b, o + k * 4 + 3, none⟩) hbr).trans d3⟩
            clear lv su d0 d1 d2 d3 x0 x1 x2 x3 x5 q1 q2 q3 q4 lb
            have hd4 := HG.out.dirs
            go_wp2_with fail
            refine region_rel (n := 23) (by kernel_rfl) (by kernel_rfl) (by kernel_rfl) (fun u' => ⟨#[.agg #[.int .i64 h.k, .string h.al, .string h.nm, .slice a1 h.args.length c1, .slice (some ⟨b, o, none⟩) h.dirs.length c2, .slice a3 sub.len c3], .pointer (some ⟨w.heap.size, 0, none⟩), .string ⟨#[]⟩, .string u, .int .i64 (h.args.length : Int), .int .i64 (k : Int), .pointer (some ⟨w.heap.size, 2, none⟩), .string h.nm, u8, u9, u10, u11, u12, u13, u14, u15, u16, u17, u18, u19, u20, u21, u22, u23, u24, u25, u26, u27, u28, u29, u30, u31, u32, u33, u34, u35, u36, u37, u38, u39, u40, u41, u42, u43, u44, u45, u46, u47, u48, u49, u50, u51, u52, u53, u54, u55, u56, u57, u58, u59, u60, u61, u62, u63, u64, u65, u66, u67, u68, u69, u70, .int .i64 (k : Int), .pointer (some ⟨w.heap.size, 4, none⟩), .slice (some ⟨b, o, none⟩) h.dirs.length c2, .int .i64 (h.dirs.length : Int), .bool true, u76, u77, u' 78, u' 79, u' 80, u' 81, u' 82, u' 83, u' 84, u' 85, u' 86, u' 87, u' 88, u' 89, u' 90, u' 91, u' 92, u' 93, u' 94, u' 95, u' 96, u' 97, u' 98, u' 99, u' 100, undef, undef, undef, undef, undef, undef, undef, undef, undef, undef, undef], []⟩) (fun i => match i with | 78 => u78 | 79 => u79 | 80 => u80 | 81 => u81 | 82 => u82 | 83 => u83 | 84 => u84 | 85 => u85 | 86 => u86 | 87 => u87 | 88 => u88 | 89 => u89 | 90 => u90 | 91 => u91 | 92 => u92 | 93 => u93 | 94 => u94 | 95 => u95 | 96 => u96 | 97 => u97 | 98 => u98 | 99 => u99 | 100 => u100 | 3 => .string u | _ => undef) (fun i => i + 78) (fun i j _ _ h => by omega) (fun i v w2 => match i with | 0 => v = .string u | 1 => Sl2 w2 v ⟨#[105, 110, 99, 108, 117, 100, 101]⟩ ⟨#[115, 107, 105, 112]⟩ | 2 => v = .pointer (some ⟨w.heap.size, 4, none⟩) | 3 => v = .slice (some ⟨b, o, none⟩) h.dirs.length c2 | 4 => v = .int .i64 (k : Int) | 5 => v = .pointer (some ⟨b, o + k * 4, none⟩) | 6 => v = .pointer (some ⟨b, o + k * 4, none⟩) | 7 => v = .bool true | 8 => v = .int .i64 1 | 9 => Pt2 w2 v 1 ⟨#[105, 110, 99, 108, 117, 100, 101]⟩ ⟨#[115, 107, 105, 112]⟩ | 10 => v = .string (⟨#[115, 107, 105, 112]⟩ : ByteArray) | 11 => v = .string ((⟨#[32, 64]⟩ : ByteArray) ++ (⟨#[115, 107, 105, 112]⟩ : ByteArray)) | 12 => v = .string (((⟨#[32, 64]⟩ : ByteArray) ++ (⟨#[115, 107, 105, 112]⟩ : ByteArray)) ++ (⟨#[40, 105, 102, 58, 32]⟩ : ByteArray)) | 13 => v = .pointer (some ⟨w.heap.size, 4, none⟩) | 14 => v = .slice (some ⟨b, o, none⟩) h.dirs.length c2 | 15 => v = .int .i64 (k : Int) | 16 => v = .pointer (some ⟨b, o + k * 4, none⟩) | 17 => v = .pointer (some ⟨b, o + k * 4 + 1, none⟩) | 18 => v = .agg #[.int .i64 h.dirs[k].v.k, .int .i64 h.dirs[k].v.n, .string h.dirs[k].v.t] | 19 => v = .string (bl (valP h.dirs[k].v)) | 20 => v = .string ((((⟨#[32, 64]⟩ : ByteArray) ++ (⟨#[115, 107, 105, 112]⟩ : ByteArray)) ++ (⟨#[40, 105, 102, 58, 32]⟩ : ByteArray)) ++ bl (valP h.dirs[k].v)) | 21 => v = .string (((((⟨#[32, 64]⟩ : ByteArray) ++ (⟨#[115, 107, 105, 112]⟩ : ByteArray)) ++ (⟨#[40, 105, 102, 58, 32]⟩ : ByteArray)) ++ bl (valP h.dirs[k].v)) ++ (⟨#[41]⟩ : ByteArray)) | 22 => v = .string (u ++ (((((⟨#[32, 64]⟩ : ByteArray) ++ (⟨#[115, 107, 105, 112]⟩ : ByteArray)) ++ (⟨#[40, 105, 102, 58, 32]⟩ : ByteArray)) ++ bl (valP h.dirs[k].v)) ++ (⟨#[41]⟩ : ByteArray))) | _ => True) (fun _ _ => True) ?up trivial ?step ?last
            case up =>
              intro i v w2 w3 hv hbb
              split at hv <;> first | exact hv | exact Sl2.up hv hbb | exact Pt2.up hv hbb
            case step =>
              intro u' w2 i hi hbw _ hdep
              have hcase : i = 0 ∨ i = 1 ∨ i = 2 ∨ i = 3 ∨ i = 4 ∨ i = 5 ∨ i = 6 ∨ i = 7 ∨ i = 8 ∨ i = 9 ∨ i = 10 ∨ i = 11 ∨ i = 12 ∨ i = 13 ∨ i = 14 ∨ i = 15 ∨ i = 16 ∨ i = 17 ∨ i = 18 ∨ i = 19 ∨ i = 20 ∨ i = 21 ∨ i = 22 := by omega
              rcases hcase with rfl | rfl | rfl | rfl | rfl | rfl | rfl | rfl | rfl | rfl | rfl | rfl | rfl | rfl | rfl | rfl | rfl | rfl | rfl | rfl | rfl | rfl | rfl
              · refine wpOp_step rfl (fun K hK => ?_)
                clear hdep
                go_simp
                exact hK _ _ ⟨_, rfl, Below.refl _ _, rfl, trivial⟩
              · refine wpOp_step rfl (fun K hK => ?_)
                clear hdep
                go_simp
                exact hK _ _ ⟨.slice (some ⟨w2.heap.size, 0, none⟩) 2 2, rfl, (Below.refl _ _).alloc (Nat.le_refl _) _, ⟨w2.heap.size, rfl, heap_alloc_new _ _⟩, trivial⟩
              · refine wpOp_step rfl (fun K hK => ?_)
                clear hdep
                go_simp
                exact hK _ _ ⟨_, rfl, Below.refl _ _, rfl, trivial⟩
              · have d2 : u' 80 = .pointer (some ⟨w.heap.size, 4, none⟩) := hdep _ rfl ⟨2, .data⟩ (by simp) rfl
                obtain ⟨y0, y1, y2, y3, y4⟩ := KS.out _ hbw
                refine wpOp_step rfl (fun K hK => ?_)
                clear hdep
                go_simp
                exact hK _ _ ⟨_, by simp [upd, d2], Below.refl _ _, rfl, trivial⟩
              · refine wpOp_step rfl (fun K hK => ?_)
                clear hdep
                go_simp
                exact hK _ _ ⟨_, rfl, Below.refl _ _, rfl, trivial⟩
              · have d3 : u' 81 = .slice (some ⟨b, o, none⟩) h.dirs.length c2 := hdep _ rfl ⟨3, .data⟩ (by simp) rfl
                have d4 : u' 82 = .int .i64 (k : Int) := hdep _ rfl ⟨4, .data⟩ (by simp) rfl
                refine wpOp_step rfl (fun K hK => ?_)
                clear hdep
                go_simp
                exact hK _ _ ⟨_, by simp [upd, d3, d4], Below.refl _ _, rfl, trivial⟩
              · have d5 : u' 83 = .pointer (some ⟨b, o + k * 4, none⟩) := hdep _ rfl ⟨5, .data⟩ (by simp) rfl
                refine wpOp_step rfl (fun K hK => ?_)
                clear hdep
                go_simp
                exact hK _ _ ⟨_, by simp [upd, d5], Below.refl _ _, rfl, trivial⟩
              · have d6 : u' 84 = .pointer (some ⟨b, o + k * 4, none⟩) := hdep _ rfl ⟨6, .data⟩ (by simp) rfl
                obtain ⟨y0, y1, y2, y3, y4⟩ := KS.out _ hbw
                refine wpOp_step rfl (fun K hK => ?_)
                clear hdep
                go_simp
                exact hK _ _ ⟨_, by simp [upd, d6], Below.refl _ _, rfl, trivial⟩
              · have d7 : u' 85 = .bool true := hdep _ rfl ⟨7, .data⟩ (by simp) rfl
                refine wpOp_step rfl (fun K hK => ?_)
                clear hdep
                go_simp
                refine (spec_bit _ _).mono ?_
                rintro e w8 ⟨rfl, rfl⟩
                exact hK _ _ ⟨.int .i64 1, by simp [upd, d7], Below.refl _ _, rfl, trivial⟩
              · have d1 : Sl2 w2 (u' 79) ⟨#[105, 110, 99, 108, 117, 100, 101]⟩ ⟨#[115, 107, 105, 112]⟩ := hdep _ rfl ⟨1, .data⟩ (by simp) rfl
                have d8 : u' 86 = .int .i64 1 := hdep _ rfl ⟨8, .data⟩ (by simp) rfl
                obtain ⟨g, e1, e2⟩ := d1
                refine wpOp_step rfl (fun K hK => ?_)
                clear hdep
                go_simp
                exact hK _ _ ⟨.pointer (some ⟨g, 1, none⟩), by simp [upd, e1, d8], Below.refl _ _, ⟨g, rfl, e2⟩, trivial⟩
              · have d9 : Pt2 w2 (u' 87) 1 ⟨#[105, 110, 99, 108, 117, 100, 101]⟩ ⟨#[115, 107, 105, 112]⟩ := hdep _ rfl ⟨9, .data⟩ (by simp) rfl
                obtain ⟨g, e1, e2⟩ := d9
                have cg := row_cell e2 1
                refine wpOp_step rfl (fun K hK => ?_)
                clear hdep
                go_simp
                exact hK _ _ ⟨_, by simp [upd, e1], Below.refl _ _, rfl, trivial⟩
              · have d10 : u' 88 = .string (⟨#[115, 107, 105, 112]⟩ : ByteArray) := hdep _ rfl ⟨10, .data⟩ (by simp) rfl
                refine wpOp_step rfl (fun K hK => ?_)
                clear hdep
                go_simp
                exact hK _ _ ⟨_, by simp [upd, d10], Below.refl _ _, rfl, trivial⟩
              · have d11 : u' 89 = .string ((⟨#[32, 64]⟩ : ByteArray) ++ (⟨#[115, 107, 105, 112]⟩ : ByteArray)) := hdep _ rfl ⟨11, .data⟩ (by simp) rfl
                refine wpOp_step rfl (fun K hK => ?_)
                clear hdep
                go_simp
                exact hK _ _ ⟨_, by simp [upd, d11], Below.refl _ _, rfl, trivial⟩
              · refine wpOp_step rfl (fun K hK => ?_)
                clear hdep
                go_simp
                exact hK _ _ ⟨_, rfl, Below.refl _ _, rfl, trivial⟩
              · have d13 : u' 91 = .pointer (some ⟨w.heap.size, 4, none⟩) := hdep _ rfl ⟨13, .data⟩ (by simp) rfl
                obtain ⟨y0, y1, y2, y3, y4⟩ := KS.out _ hbw
                refine wpOp_step rfl (fun K hK => ?_)
                clear hdep
                go_simp
                exact hK _ _ ⟨_, by simp [upd, d13], Below.refl _ _, rfl, trivial⟩
              · refine wpOp_step rfl (fun K hK => ?_)
                clear hdep
                go_simp
                exact hK _ _ ⟨_, rfl, Below.refl _ _, rfl, trivial⟩
              · have d14 : u' 92 = .slice (some ⟨b, o, none⟩) h.dirs.length c2 := hdep _ rfl ⟨14, .data⟩ (by simp) rfl
                have d15 : u' 93 = .int .i64 (k : Int) := hdep _ rfl ⟨15, .data⟩ (by simp) rfl
                refine wpOp_step rfl (fun K hK => ?_)
                clear hdep
                go_simp
                exact hK _ _ ⟨_, by simp [upd, d14, d15], Below.refl _ _, rfl, trivial⟩
              · have d16 : u' 94 = .pointer (some ⟨b, o + k * 4, none⟩) := hdep _ rfl ⟨16, .data⟩ (by simp) rfl
                refine wpOp_step rfl (fun K hK => ?_)
                clear hdep
                go_simp
                exact hK _ _ ⟨_, by simp [upd, d16], Below.refl _ _, rfl, trivial⟩
              · have d17 : u' 95 = .pointer (some ⟨b, o + k * 4 + 1, none⟩) := hdep _ rfl ⟨17, .data⟩ (by simp) rfl
                obtain ⟨y0, y1, y2, y3, y4⟩ := KS.out _ hbw
                refine wpOp_step rfl (fun K hK => ?_)
                clear hdep
                go_simp
                exact hK _ _ ⟨_, by simp [upd, d17], Below.refl _ _, rfl, trivial⟩
              · have d18 : u' 96 = .agg #[.int .i64 h.dirs[k].v.k, .int .i64 h.dirs[k].v.n, .string h.dirs[k].v.t] := hdep _ rfl ⟨18, .data⟩ (by simp) rfl
                refine wpOp_step rfl (fun K hK => ?_)
                clear hdep
                go_simp
                refine (spec_value h.dirs[k].v _ HV.out).mono ?_
                rintro e w8 ⟨rfl, hb8⟩
                exact hK _ _ ⟨_, by simp [upd, d18], hb8, rfl, trivial⟩
              · have d12 : u' 90 = .string (((⟨#[32, 64]⟩ : ByteArray) ++ (⟨#[115, 107, 105, 112]⟩ : ByteArray)) ++ (⟨#[40, 105, 102, 58, 32]⟩ : ByteArray)) := hdep _ rfl ⟨12, .data⟩ (by simp) rfl
                have d19 : u' 97 = .string (bl (valP h.dirs[k].v)) := hdep _ rfl ⟨19, .data⟩ (by simp) rfl
                refine wpOp_step rfl (fun K hK => ?_)
                clear hdep
                go_simp
                exact hK _ _ ⟨_, by simp [upd, d12, d19], Below.refl _ _, rfl, trivial⟩
              · have d20 : u' 98 = .string ((((⟨#[32, 64]⟩ : ByteArray) ++ (⟨#[115, 107, 105, 112]⟩ : ByteArray)) ++ (⟨#[40, 105, 102, 58, 32]⟩ : ByteArray)) ++ bl (valP h.dirs[k].v)) := hdep _ rfl ⟨20, .data⟩ (by simp) rfl
                refine wpOp_step rfl (fun K hK => ?_)
                clear hdep
                go_simp
                exact hK _ _ ⟨_, by simp [upd, d20], Below.refl _ _, rfl, trivial⟩
              · have d0 : u' 78 = .string u := hdep _ rfl ⟨0, .data⟩ (by simp) rfl
                have d21 : u' 99 = .string (((((⟨#[32, 64]⟩ : ByteArray) ++ (⟨#[115, 107, 105, 112]⟩ : ByteArray)) ++ (⟨#[40, 105, 102, 58, 32]⟩ : ByteArray)) ++ bl (valP h.dirs[k].v)) ++ (⟨#[41]⟩ : ByteArray)) := hdep _ rfl ⟨21, .data⟩ (by simp) rfl
                refine wpOp_step rfl (fun K hK => ?_)
                clear hdep
                go_simp
                exact hK _ _ ⟨_, by simp [upd, d0, d21], Below.refl _ _, rfl, trivial⟩
            case last =>
              intro u' w2 hbw _ hp
              have d22 : u' 100 = _ := hp 22 (by omega)
              clear hp
              refine wpOp_step rfl (fun K hK => ?_)
              go_simp
              refine hK _ _ ?_
              clear hK K
              have HW : Hid (Below W.heap.size W w2) := hb.trans (hbw.mono hz)
              go_wp2_with fail
              go_roundw
              case rel => exact ⟨k + 1, _, by omega, by first | rfl | go_num, rfl, HN, HW.out⟩
              case measure => simp [intOf]; omega
        · obtain rfl : k = h.dirs.length := by omega
          have HU2 : Hid (nl u = headP h ++ (argsP h.args ++ dirsP h.dirs)) := by have := HU.out; rwa [List.take_length] at this
          have HB3 : Hid (Below w.heap.size w wr) := QB.out.trans (hb.mono (by omega))
          have HR3 : Hid (SelRow 0 wr.heap.size wr a3 sub) := SelRow.up R3.out hb
          clear HU hb hk
          cases sub with
          | nil =>
            have HP : Hid (u = bl (selP h .nil)) := by
              refine bl_of ?_
              rw [HU2.out]; simp [selP, Sels.isNil]
            simp only [Sels.len] at x5
            go_wp2_with fail
            go_ret
            exact ⟨ret_str HP.out, HB3.out⟩
          | cons h1 s1 rest1 =>
            have hn : 0 < (Sels.cons h1 s1 rest1).len := by simp [Sels.len]
            generalize hsub : Sels.cons h1 s1 rest1 = sub at *
            have HNL : Hid (sub.isNil = false) := by unfold Hid; rw [← hsub]; rfl
            have HS : Hid (Sels.cons h1 s1 rest1 = sub) := hsub
            clear hsub
            have ls := bl_size (123 :: selsP sub)
            simp only [List.length_cons] at ls
            have l1 : (⟨#[32]⟩ : ByteArray).size = 1 := rfl
            have r1 : ¬ (9223372036854775807 < (⟨#[32]⟩ : ByteArray).size + (bl (123 :: selsP sub)).size) := by omega
            have r2 : ¬ (9223372036854775807 < u.size + ((⟨#[32]⟩ : ByteArray) ++ bl (123 :: selsP sub)).size) := by rw [ByteArray.size_append]; omega
            have r3 : ¬ (9223372036854775807 < 1 + (bl (123 :: selsP sub)).size) := by omega
            have r4 : ¬ (9223372036854775807 < u.size + (1 + (bl (123 :: selsP sub)).size)) := by omega
            have HP : Hid (u ++ ((⟨#[32]⟩ : ByteArray) ++ bl (123 :: selsP sub)) = bl (selP h sub)) := by
              refine bl_of ?_
              rw [nl_app, nl_app, nl_bl, HU2.out]
              unfold selP
              rw [HNL.out]
              simp [nl_lit]
            clear ls l1
            go_wp2_with fail
            refine (IT.out a3 c3 _ HR3.out).mono ?_
            rintro e w9 ⟨rfl, hb9⟩
            have Q9 : Hid (Below w.heap.size w w9) := HB3.out.trans (hb9.mono (by have := HB3.out.size; omega))
            clear hb9
            go_wp2_with fail
            go_ret
            exact ⟨ret_str (by rw [HS.out]; exact HP.out), Q9.out⟩
end Go.Proofs.Ytiehcmdhfeeomaa
