/- The specification's test of a schema. -/
import Derived.Test.YtnfoinmccigdfaaGreatDoorSchImpl
namespace Go.Proofs.YtnfoinmccigdfaaGreatDoor.G
open Go.ChangeShapes Go.WideShapes Go.ChangeAt Go.RowKit Go.Maps
set_option linter.unusedVariables false

def isTn (s : ByteArray) : Bool := s.toList == [95, 95, 116, 121, 112, 101, 110, 97, 109, 101]
def GoodN (ns : List ByteArray) (j : Nat) : Prop := ∀ h : j < ns.length, nameB ns[j] = true ∧ seen (ns.take j) ns[j] = false
theorem okN_of {ns : List ByteArray} (h : ∀ j, j < ns.length → GoodN ns j) : OkN ns := fun j hj => h j hj hj
theorem OkN.good {ns : List ByteArray} (h : OkN ns) (j : Nat) : GoodN ns j := fun hj => h j hj
theorem in_list : bIn.toList = [73, 110, 116] := by rw [ByteArray.toList_eq]
theorem tn_list : bTn.toList = [95, 95, 116, 121, 112, 101, 110, 97, 109, 101] := by rw [ByteArray.toList_eq]
theorem no_in {ns : List ByteArray} (h : ∀ s ∈ ns, isIn s = false) : seen ns bIn = false := by
  unfold seen; rw [List.any_eq_false]
  intro s hs; have := h s hs; unfold isIn at this; rw [in_list]; simpa using this
theorem no_tn {ns : List ByteArray} (h : ∀ s ∈ ns, isTn s = false) : seen ns bTn = false := by
  unfold seen; rw [List.any_eq_false]
  intro s hs; have := h s hs; unfold isTn at this; rw [tn_list]; simpa using this
theorem in_seen {ns : List ByteArray} {s : ByteArray} (hs : s ∈ ns) (h : isIn s = true) : seen ns bIn = true := by
  unfold seen; rw [List.any_eq_true]; exact ⟨s, hs, by rw [in_list]; exact h⟩
theorem tn_seen {ns : List ByteArray} {s : ByteArray} (hs : s ∈ ns) (h : isTn s = true) : seen ns bTn = true := by
  unfold seen; rw [List.any_eq_true]; exact ⟨s, hs, by rw [tn_list]; exact h⟩
/-- What is known behind some fields, behind some types. -/
def PreF (ts : List ByteArray) (fs : List Fd) (k : Nat) : Prop := (∀ j, j < k → GoodN (fs.map Fd.nm) j) ∧ (∀ f ∈ fs.take k, isTn f.nm = false ∧ FdOK ts f)
def PreT (l : List Td) (k : Nat) : Prop := (∀ j, j < k → GoodN (l.map Td.nm) j) ∧ (∀ x ∈ l.take k, isIn x.nm = false ∧ TdOK (l.map Td.nm) x)
theorem good_next {ns : List ByteArray} {k : Nat} (h : ∀ j, j < k → GoodN ns j) (hk : GoodN ns k) : ∀ j, j < k + 1 → GoodN ns j := by
  intro j hj
  by_cases e : j = k
  · subst e; exact hk
  · exact h j (by omega)
theorem PreF.done {ts : List ByteArray} {x : Td} (h : PreF ts x.fs x.fs.length) (h1 : 1 ≤ x.fs.length) (h2 : x.fs.length ≤ 10) : TdOK ts x := by
  obtain ⟨a, b⟩ := h
  rw [List.take_length] at b
  refine ⟨h1, h2, okN_of (fun j hj => a j (by simpa using hj)), no_tn ?_, fun f hf => (b f hf).2⟩
  intro s hs
  obtain ⟨f, hf, rfl⟩ := List.mem_map.1 hs
  exact (b f hf).1
theorem PreT.done {l : List Td} (h : PreT l l.length) (h1 : 1 ≤ l.length) (h2 : l.length ≤ 8) (hq : seen (l.map Td.nm) bQu = true) : SchOK l := by
  obtain ⟨a, b⟩ := h
  rw [List.take_length] at b
  refine ⟨h1, h2, hq, no_in ?_, okN_of (fun j hj => a j (by simpa using hj)), fun x hx => (b x hx).2⟩
  intro s hs
  obtain ⟨f, hf, rfl⟩ := List.mem_map.1 hs
  exact (b f hf).1

theorem spec_name_of {s : ByteArray} {b : Bool} (h : nameB s = b) (w : World) (hs : s.size ≤ maxLen) :
    Calls Tryz.prog 41 #[.string s] w fun e w' => e = .returned (.bool b) ∧ w' = w := by rw [← h]; exact spec_nameOK s w hs
set_option maxHeartbeats 8000000 in
set_option maxRecDepth 40000 in
theorem spec_schema (a : Option Addr) (c : Nat) (l : List Td) (w : World) (hr : TdRow 0 w.heap.size w a l) (hb : TdsBd 1048576 l) :
    Calls Tryz.prog 24 #[.agg #[.slice a l.length c]] w fun e w' => Says (SchOK l) e ∧ Below w.heap.size w w' := by
  obtain ⟨x2, x3⟩ := hb
  have B0 : Hid (Below w.heap.size w (w.alloc (.cells #[.slice a l.length c] 24))) := (Below.refl _ _).alloc (Nat.le_refl _) _
  have K1 : Hid (∀ W0, Below w.heap.size w W0 → TdRow 0 W0.heap.size W0 a l) := fun W0 hB => TdRow.up hr hB
  have HX : Hid (∀ x ∈ l, TdBd 1048576 x) := x3
  have HR : Hid (TdRow 0 w.heap.size w a l) := hr
  clear hr x3
  by_cases g1 : 1 ≤ l.length ∧ l.length ≤ 8
  case neg =>
    have HN : Hid (¬ SchOK l) := fun h => g1 ⟨h.1, h.2.1⟩
    have hin : inB l.length 1 8 = false := by unfold inB; rw [Bool.eq_false_iff]; intro h; simp at h; omega
    go_enter Tryz.func24, Tryz.ntmps24
    go_wp2_with fail
    refine (spec_in _ _ _ _).mono ?_
    rw [hin]
    rintro e w1 ⟨rfl, rfl⟩
    go_wp2_with fail
    go_ret
    exact ⟨Says.no HN.out, B0.out⟩
  have hin : inB l.length 1 8 = true := by unfold inB; simp; omega
  have G1 : Hid (1 ≤ l.length ∧ l.length ≤ 8) := g1
  have g1 := g1.2
  go_enter Tryz.func24, Tryz.ntmps24
  go_wp2_with fail
  refine (spec_in _ _ _ _).mono ?_
  rw [hin]
  rintro e w1 ⟨rfl, rfl⟩
  clear hin
  go_wp2_with fail
  refine (spec_find a c l bQu _ (K1.out _ B0.out) x2).mono ?_
  rintro e w1 ⟨r, rfl, hf, hb1⟩
  have Q1 : Hid (Below w.heap.size w w1) := below_one hb1
  have b1 : Below (w.heap.size + 1) (w.alloc (.cells #[.slice a l.length c] 24)) w1 := hb1.mono (by simp)
  clear hb1
  rcases hf.neg with ⟨hr0, hq⟩ | ⟨hr0, hq⟩
  · have HN : Hid (¬ SchOK l) := fun h => by have := h.2.2.1; rw [hq] at this; cases this
    clear hf
    go_wp2_with fail
    go_ret
    exact ⟨Says.no HN.out, Q1.out⟩
  clear hf
  go_wp2_with fail
  clear hr0
  go_loopw [3] (fun i w' => ∃ (k : Nat), k ≤ l.length ∧ i = .int .i64 k ∧ Below (w.heap.size + 1) (w.alloc (.cells #[.slice a l.length c] 24)) w' ∧ Hid (PreT l k)) (fun i _ => l.length - (intOf i).toNat)
  case atStart => exact ⟨0, by omega, rfl, b1, ⟨fun j h => by omega, by simp⟩⟩
  case round =>
    obtain ⟨wo, rfl⟩ : ∃ x, x = wr := ⟨_, rfl⟩
    clear b1
    obtain ⟨k, hk, rfl, hb, HA⟩ := hrel
    have k0 : wo.cell? ⟨w.heap.size, 0, none⟩ = some (.slice a l.length c) := (hb.cell (p := ⟨w.heap.size, 0, none⟩) (show w.heap.size < w.heap.size + 1 by omega)).trans (row_cell (heap_alloc_new _ _) 0)
    have k0' : Hid _ := k0
    have hz := size_one hb
    have hzz : w.heap.size < wo.heap.size := by omega
    have Q0 : Hid (Below w.heap.size w wo) := B0.out.trans (hb.mono (by omega))
    by_cases hlt : k < l.length
    case neg =>
      have HN : Hid (SchOK l) := by
        have e : k = l.length := by omega
        rw [e] at HA
        exact PreT.done HA.out G1.out.1 G1.out.2 hq
      go_wp2_with fail
      go_ret
      exact ⟨Says.yes HN.out, Q0.out⟩
    obtain ⟨b, o, a5, c5, ha, _, hbl, d0, d1, r3⟩ := TdRow.cells (TdRow.keep HR.out (agree Q0.out (Nat.le_refl _))) k hlt
    subst ha
    have hbS := hb
    have HY : Hid (TdBd 1048576 l[k]) := HX.out l[k] (List.getElem_mem hlt)
    have hfl : l[k].fs.length ≤ 1048576 := HY.out.2.1
    have K3 : Hid (∀ W0, Below wo.heap.size wo W0 → FdRow 0 W0.heap.size W0 a5 l[k].fs) := fun W0 hB => FdRow.up (FdRow.wide r3 (Nat.le_refl _) (by omega)) hB
    have hlt2 : k < (l.map Td.nm).length := by simpa using hlt
    have HE : Hid ((l.map Td.nm)[k] = l[k].nm) := by simp [Hid]
    have sx : l[k].nm.size ≤ maxLen := by have := HY.out.1; unfold maxLen; omega
    have X0 : Hid (Below wo.heap.size wo (wo.alloc (.cells #[.string l[k].nm, .slice a5 l[k].fs.length c5] 49))) := (Below.refl _ _).alloc (Nat.le_refl _) _
    clear r3
    go_wp2_with fail
    refine (spec_nameOK l[k].nm _ sx).mono ?_
    cases hm : nameB l[k].nm
    · rintro e w9 ⟨rfl, rfl⟩
      have HN : Hid (¬ SchOK l) := fun h => by have := (h.2.2.2.2.1 k hlt2).1; rw [HE.out, hm] at this; cases this
      go_wp2_with fail
      go_ret
      exact ⟨Says.no HN.out, Q0.out.trans (X0.out.mono (by omega))⟩
    rintro e w9 ⟨rfl, rfl⟩
    cases hi : isIn l[k].nm
    case true =>
      have hi2 : (l[k].nm.toList == [73, 110, 116]) = true := hi
      have HN : Hid (¬ SchOK l) := fun h => by
        have h1 := in_seen (List.mem_map_of_mem (f := Td.nm) (List.getElem_mem hlt)) hi
        have := h.2.2.2.1; rw [h1] at this; cases this
      go_wp2_with fail
      go_ret
      exact ⟨Says.no HN.out, Q0.out.trans (X0.out.mono (by omega))⟩
    have hi2 : (l[k].nm.toList == [73, 110, 116]) = false := hi
    go_wp2_with fail
    refine (spec_find _ c l l[k].nm _ (K1.out _ (Q0.out.trans (X0.out.mono (by omega)))) x2).mono ?_
    rintro e w1 ⟨r, rfl, hf, hb1⟩
    have hf : Fi (l.map Td.nm) (l.map Td.nm)[k] r := by rw [HE.out]; exact hf
    have p1 : Hid (Below wo.heap.size wo w1) := below_one hb1
    have b1 : Below (wo.heap.size + 1) (wo.alloc (.cells #[.string l[k].nm, .slice a5 l[k].fs.length c5] 49)) w1 := hb1.mono (by simp)
    have y1 := fun o => b1.cell (p := ⟨wo.heap.size, o, none⟩) (show wo.heap.size < wo.heap.size + 1 by omega)
    clear hb1 hi2
    rcases hf.at_ hlt2 with ⟨hrk, hsn⟩ | ⟨hrk, hsn⟩
    case inr =>
      have HN : Hid (¬ SchOK l) := fun h => by have := (h.2.2.2.2.1 k hlt2).2; rw [hsn] at this; cases this
      have hrb : (r == (k : Int)) = false := by rw [beq_eq_false_iff_ne]; exact hrk
      have hrc : (r != (k : Int)) = true := by simpa using hrk
      clear hf hsn
      go_wp2_with fail
      go_ret
      exact ⟨Says.no HN.out, Q0.out.trans (p1.out.mono (by omega))⟩
    subst hrk
    have HSN : Hid (GoodN (l.map Td.nm) k) := fun _ => ⟨by rw [HE.out]; exact hm, hsn⟩
    clear hf hsn
    by_cases g2 : 1 ≤ l[k].fs.length ∧ l[k].fs.length ≤ 10
    case neg =>
      have HN : Hid (¬ SchOK l) := fun h => by have := h.2.2.2.2.2 _ (List.getElem_mem hlt); exact g2 ⟨this.1, this.2.1⟩
      have hin : inB l[k].fs.length 1 10 = false := by unfold inB; rw [Bool.eq_false_iff]; intro h; simp at h; omega
      go_wp2_with fail
      refine (spec_in _ _ _ _).mono ?_
      rw [hin]
      rintro e w2 ⟨rfl, rfl⟩
      go_wp2_with fail
      go_ret
      exact ⟨Says.no HN.out, Q0.out.trans (p1.out.mono (by omega))⟩
    have hin : inB l[k].fs.length 1 10 = true := by unfold inB; simp; omega
    have G2 : Hid (1 ≤ l[k].fs.length ∧ l[k].fs.length ≤ 10) := g2
    have g2 := g2.2
    go_wp2_with fail
    refine (spec_in _ _ _ _).mono ?_
    rw [hin]
    rintro e w2 ⟨rfl, rfl⟩
    clear hin d0 d1
    go_wp2_with fail
    have b1' : Hid _ := b1
    clear b1 y1 k0 hb g2
    have hb' : Hid _ := hbS
    clear hbS
    go_loopw [5] (fun i w' => ∃ (m : Nat), m ≤ l[k].fs.length ∧ i = .int .i64 m ∧ Below (wo.heap.size + 1) (wo.alloc (.cells #[.string l[k].nm, .slice a5 l[k].fs.length c5] 49)) w' ∧ Hid (PreF (l.map Td.nm) l[k].fs m)) (fun i _ => l[k].fs.length - (intOf i).toNat)
    case atStart => exact ⟨0, by omega, rfl, b1'.out, ⟨fun j h => by omega, by simp⟩⟩
    case round =>
      obtain ⟨wr2, rfl⟩ : ∃ x, x = wr := ⟨_, rfl⟩
      obtain ⟨m, hm2, rfl, hb2, HF⟩ := hrel
      have hz2 := size_one hb2
      have zz2 : wo.heap.size < wr2.heap.size := by omega
      have zz3 : w.heap.size < wr2.heap.size := by omega
      have P2 : Hid (Below wo.heap.size wo wr2) := X0.out.trans (hb2.mono (by omega))
      have Q2 : Hid (Below w.heap.size w wr2) := Q0.out.trans (P2.out.mono (by omega))
      have s0 : wr2.cell? ⟨w.heap.size, 0, none⟩ = some (.slice (some ⟨b, o, none⟩) l.length c) := (P2.out.cell (p := ⟨w.heap.size, 0, none⟩) (show w.heap.size < wo.heap.size by omega)).trans k0'.out
      have j0 : wr2.cell? ⟨wo.heap.size, 0, none⟩ = some (.string l[k].nm) := (hb2.cell (p := ⟨wo.heap.size, 0, none⟩) (show wo.heap.size < wo.heap.size + 1 by omega)).trans (row_cell (heap_alloc_new _ _) 0)
      have j1 : wr2.cell? ⟨wo.heap.size, 1, none⟩ = some (.slice a5 l[k].fs.length c5) := (hb2.cell (p := ⟨wo.heap.size, 1, none⟩) (show wo.heap.size < wo.heap.size + 1 by omega)).trans (row_cell (heap_alloc_new _ _) 1)
      have HB2 : Hid _ := hb2
      clear hb2
      by_cases hlm : m < l[k].fs.length
      case neg =>
        have HN : Hid (PreT l (k + 1)) := by
          have e : m = l[k].fs.length := by omega
          rw [e] at HF
          exact ⟨good_next HA.out.1 HSN.out, all_take hlt HA.out.2 ⟨hi, PreF.done HF.out G2.out.1 G2.out.2⟩⟩
        have HW : Hid (Below (w.heap.size + 1) (w.alloc (.cells #[.slice (some ⟨b, o, none⟩) l.length c] 24)) wr2) := hb'.out.trans (P2.out.mono (by omega))
        go_wp2_with fail
        go_roundw
        case rel => exact ⟨k + 1, by omega, by go_num, HW.out, HN⟩
        case measure => simp [intOf]; omega
      obtain ⟨b5, o5, a6, c6, ha5, _, hbl5, f0, f1, f2, f3, f4, r5⟩ := FdRow.cells (FdRow.keep (K3.out _ (Below.refl _ _)) (agree P2.out (Nat.le_refl _))) m hlm
      subst ha5
      have HZ : Hid (FdBd 1048576 l[k].fs[m]) := HY.out.2.2 l[k].fs[m] (List.getElem_mem hlm)
      have hal : l[k].fs[m].args.length ≤ 1048576 := HZ.out.2.1.1
      have K5 : Hid (∀ W0, Below wr2.heap.size wr2 W0 → AgRow 0 W0.heap.size W0 a6 l[k].fs[m].args) := fun W0 hB => AgRow.up (AgRow.wide r5 (Nat.le_refl _) (by omega)) hB
      have hlm2 : m < (l[k].fs.map Fd.nm).length := by simpa using hlm
      have HG : Hid ((l[k].fs.map Fd.nm)[m] = l[k].fs[m].nm) := by simp [Hid]
      have sf : l[k].fs[m].nm.size ≤ maxLen := by have := HZ.out.1; unfold maxLen; omega
      have st : l[k].fs[m].ty.size ≤ maxLen := by have := HZ.out.2.2; unfold maxLen; omega
      have Y0 : Hid (Below wr2.heap.size wr2 (wr2.alloc (.cells #[.string l[k].fs[m].nm, .slice a6 l[k].fs[m].args.length c6, .string l[k].fs[m].ty, .bool l[k].fs[m].ls, .bool l[k].fs[m].bg] 53))) := (Below.refl _ _).alloc (Nat.le_refl _) _
      have NT : Hid (¬ TdOK (l.map Td.nm) l[k] → ¬ SchOK l) := fun h h2 => h (h2.2.2.2.2.2 _ (List.getElem_mem hlt))
      clear r5
      go_wp2_with fail
      refine (spec_nameOK l[k].fs[m].nm _ sf).mono ?_
      cases hn : nameB l[k].fs[m].nm
      · rintro e w9 ⟨rfl, rfl⟩
        have HN : Hid (¬ SchOK l) := NT.out fun h => by have := (h.2.2.1 m hlm2).1; rw [HG.out, hn] at this; cases this
        go_wp2_with fail
        go_ret
        exact ⟨Says.no HN.out, Q2.out.trans (Y0.out.mono (by omega))⟩
      rintro e w9 ⟨rfl, rfl⟩
      cases ht : isTn l[k].fs[m].nm
      case true =>
        have ht2 : (l[k].fs[m].nm.toList == [95, 95, 116, 121, 112, 101, 110, 97, 109, 101]) = true := ht
        have HN : Hid (¬ SchOK l) := NT.out fun h => by
          have h1 := tn_seen (List.mem_map_of_mem (f := Fd.nm) (List.getElem_mem hlm)) ht
          have := h.2.2.2.1; rw [h1] at this; cases this
        go_wp2_with fail
        go_ret
        exact ⟨Says.no HN.out, Q2.out.trans (Y0.out.mono (by omega))⟩
      have ht2 : (l[k].fs[m].nm.toList == [95, 95, 116, 121, 112, 101, 110, 97, 109, 101]) = false := ht
      go_wp2_with fail
      refine (spec_field l[k] _ c5 l[k].fs[m].nm _ (K3.out _ (P2.out.trans (Y0.out.mono (by omega)))) hfl).mono ?_
      rintro e w3 ⟨r, rfl, hf, hb3⟩
      have hf : Fi (l[k].fs.map Fd.nm) (l[k].fs.map Fd.nm)[m] r := by rw [HG.out]; exact hf
      have p3 : Hid (Below wr2.heap.size wr2 w3) := below_one hb3
      have b3 : Below (wr2.heap.size + 1) (wr2.alloc (.cells #[.string l[k].fs[m].nm, .slice a6 l[k].fs[m].args.length c6, .string l[k].fs[m].ty, .bool l[k].fs[m].ls, .bool l[k].fs[m].bg] 53)) w3 := hb3.mono (by simp)
      have y3 := fun o => b3.cell (p := ⟨wr2.heap.size, o, none⟩) (show wr2.heap.size < wr2.heap.size + 1 by omega)
      have s3 : w3.cell? ⟨w.heap.size, 0, none⟩ = some (.slice (some ⟨b, o, none⟩) l.length c) := (p3.out.cell (p := ⟨w.heap.size, 0, none⟩) (show w.heap.size < wr2.heap.size by omega)).trans s0
      clear hb3 ht2
      rcases hf.at_ hlm2 with ⟨hrk, hsn⟩ | ⟨hrk, hsn⟩
      case inr =>
        have HN : Hid (¬ SchOK l) := NT.out fun h => by have := (h.2.2.1 m hlm2).2; rw [hsn] at this; cases this
        have hrb : (r == (m : Int)) = false := by rw [beq_eq_false_iff_ne]; exact hrk
        have hrc : (r != (m : Int)) = true := by simpa using hrk
        clear hf hsn
        go_wp2_with fail
        go_ret
        exact ⟨Says.no HN.out, Q2.out.trans (p3.out.mono (by omega))⟩
      subst hrk
      have HSF : Hid (GoodN (l[k].fs.map Fd.nm) m) := fun _ => ⟨by rw [HG.out]; exact hn, hsn⟩
      clear hf hsn
      --L3
      cases hty : isIn l[k].fs[m].ty
      case true =>
        have hty2 : (l[k].fs[m].ty.toList == [73, 110, 116]) = true := hty
        have HTY : Hid (isIn l[k].fs[m].ty = true ∨ seen (l.map Td.nm) l[k].fs[m].ty = true) := .inl hty
        by_cases h4 : 4 < l[k].fs[m].args.length
        · have HN : Hid (¬ SchOK l) := NT.out fun h => by have := (h.2.2.2.2 _ (List.getElem_mem hlm)).2.1; omega
          go_wp2_with fail
          go_ret
          exact ⟨Says.no HN.out, Q2.out.trans (p3.out.mono (by omega))⟩
        go_wp2_with fail
        have bW : Hid _ := b3
        clear b3 y3 s3 s0 j0 j1
        go_loopw [7] (fun i w' => ∃ (n : Nat), n ≤ l[k].fs[m].args.length ∧ i = .int .i64 n ∧ Below (wr2.heap.size + 1) (wr2.alloc (.cells #[.string l[k].fs[m].nm, .slice a6 l[k].fs[m].args.length c6, .string l[k].fs[m].ty, .bool l[k].fs[m].ls, .bool l[k].fs[m].bg] 53)) w' ∧ Hid (∀ j, j < n → GoodN (l[k].fs[m].args.map Ag.nm) j)) (fun i _ => l[k].fs[m].args.length - (intOf i).toNat)
        case atStart => exact ⟨0, by omega, rfl, bW.out, fun j h => by omega⟩
        case round =>
          obtain ⟨wr3, rfl⟩ : ∃ x, x = wr := ⟨_, rfl⟩
          obtain ⟨n, hn3, rfl, hb4, HJ⟩ := hrel
          have hz4 := size_one hb4
          have zz4 : wr2.heap.size < wr3.heap.size := by omega
          have P4 : Hid (Below wr2.heap.size wr2 wr3) := Y0.out.trans (hb4.mono (by omega))
          have q0 : wr3.cell? ⟨wr2.heap.size, 0, none⟩ = some (.string l[k].fs[m].nm) := (hb4.cell (p := ⟨wr2.heap.size, 0, none⟩) (show wr2.heap.size < wr2.heap.size + 1 by omega)).trans (row_cell (heap_alloc_new _ _) 0)
          have q1 : wr3.cell? ⟨wr2.heap.size, 1, none⟩ = some (.slice a6 l[k].fs[m].args.length c6) := (hb4.cell (p := ⟨wr2.heap.size, 1, none⟩) (show wr2.heap.size < wr2.heap.size + 1 by omega)).trans (row_cell (heap_alloc_new _ _) 1)
          have q2 : wr3.cell? ⟨wr2.heap.size, 2, none⟩ = some (.string l[k].fs[m].ty) := (hb4.cell (p := ⟨wr2.heap.size, 2, none⟩) (show wr2.heap.size < wr2.heap.size + 1 by omega)).trans (row_cell (heap_alloc_new _ _) 2)
          have q3 : wr3.cell? ⟨wr2.heap.size, 3, none⟩ = some (.bool l[k].fs[m].ls) := (hb4.cell (p := ⟨wr2.heap.size, 3, none⟩) (show wr2.heap.size < wr2.heap.size + 1 by omega)).trans (row_cell (heap_alloc_new _ _) 3)
          have q4 : wr3.cell? ⟨wr2.heap.size, 4, none⟩ = some (.bool l[k].fs[m].bg) := (hb4.cell (p := ⟨wr2.heap.size, 4, none⟩) (show wr2.heap.size < wr2.heap.size + 1 by omega)).trans (row_cell (heap_alloc_new _ _) 4)
          have HB4 : Hid _ := hb4
          clear hb4
          by_cases hln : n < l[k].fs[m].args.length
          case neg =>
            have HN : Hid (PreF (l.map Td.nm) l[k].fs (m + 1)) := by
              have e : n = l[k].fs[m].args.length := by omega
              exact ⟨good_next HF.out.1 HSF.out, all_take hlm HF.out.2 ⟨ht, HTY.out, by omega, okN_of (fun j hj => HJ.out j (by simp at hj; omega))⟩⟩
            have HW : Hid (Below (wo.heap.size + 1) (wo.alloc (.cells #[.string l[k].nm, .slice (some ⟨b5, o5, none⟩) l[k].fs.length c5] 49)) wr3) := HB2.out.trans (P4.out.mono (by omega))
            go_wp2_with fail
            go_roundw
            case rel => exact ⟨m + 1, by omega, by go_num, HW.out, HN⟩
            case measure => simp [intOf]; omega
          obtain ⟨b7, o7, ha7, _, hbl7, g0, g1'⟩ := AgRow.cells (AgRow.keep (K5.out _ (Below.refl _ _)) (agree P4.out (Nat.le_refl _))) n hln
          subst ha7
          have hln2 : n < (l[k].fs[m].args.map Ag.nm).length := by simpa using hln
          have hln3 : (n : Int) < l[k].fs[m].args.length := by omega
          have HH : Hid ((l[k].fs[m].args.map Ag.nm)[n] = l[k].fs[m].args[n].nm) := by simp [Hid]
          have sg : l[k].fs[m].args[n].nm.size ≤ maxLen := by have : l[k].fs[m].args[n].nm.size ≤ 1048576 := HZ.out.2.1.2 _ (List.getElem_mem hln); unfold maxLen; omega
          cases hna : nameB l[k].fs[m].args[n].nm
          · have HN : Hid (¬ SchOK l) := NT.out fun h => by have := ((h.2.2.2.2 _ (List.getElem_mem hlm)).2.2 n hln2).1; rw [HH.out, hna] at this; cases this
            go_wp2_with fail
            go_quiet ((go_at_call 41; exact Calls.quiet_of_same (spec_name_of hna _ sg)))
            go_wp2_with fail
            go_ret
            exact ⟨Says.no HN.out, Q2.out.trans (Below.mono (P4.out.trans (by exact ⟨rfl, rfl, rfl, Nat.le_refl _, fun _ _ => rfl⟩)) (by omega))⟩
          · go_wp2_with fail
            go_region_with (first
              | (go_at_call 41; refine (spec_nameOK l[k].fs[m].args[n].nm _ sg).mono ?_; rw [hna]; rintro e w5 ⟨rfl, rfl⟩)
              | (go_at_call 43; refine (spec_arg l[k].fs[m] _ c6 l[k].fs[m].args[n].nm _ (K5.out _ P4.out.drew) hal).mono ?_; rintro e w6 ⟨r2, rfl, hf2, hb6⟩))
            all_goals
              have hf2 : Fi (l[k].fs[m].args.map Ag.nm) (l[k].fs[m].args.map Ag.nm)[n] r2 := by rw [HH.out]; exact hf2
              rcases hf2.at_ hln2 with ⟨hrk, hsn⟩ | ⟨hrk, hsn⟩
              · subst hrk
                have HN : Hid (∀ j, j < n + 1 → GoodN (l[k].fs[m].args.map Ag.nm) j) := good_next HJ.out (fun _ => ⟨by rw [HH.out]; exact hna, hsn⟩)
                have HW : Hid (Below (wr2.heap.size + 1) (wr2.alloc (.cells #[.string l[k].fs[m].nm, .slice (some ⟨b7, o7, none⟩) l[k].fs[m].args.length c6, .string l[k].fs[m].ty, .bool l[k].fs[m].ls, .bool l[k].fs[m].bg] 53)) w6) := HB4.out.drew.trans (hb6.mono (by have : wr3.drew.heap.size = wr3.heap.size := rfl; omega))
                clear hf2 hsn hb6
                go_wp2_with fail
                go_roundw
                case rel => exact ⟨n + 1, by omega, by go_num, HW.out, HN⟩
                case measure => simp [intOf]; omega
              · have HN : Hid (¬ SchOK l) := NT.out fun h => by have := ((h.2.2.2.2 _ (List.getElem_mem hlm)).2.2 n hln2).2; rw [hsn] at this; cases this
                have hrb : (r2 == (n : Int)) = false := by rw [beq_eq_false_iff_ne]; exact hrk
                have hrc : (r2 != (n : Int)) = true := by simpa using hrk
                have HW : Hid (Below wr2.heap.size wr2 w6) := P4.out.drew.trans (hb6.mono (by have : wr3.drew.heap.size = wr3.heap.size := rfl; omega))
                clear hf2 hsn hb6
                go_wp2_with fail
                go_ret
                exact ⟨Says.no HN.out, Q2.out.trans (HW.out.mono (by omega))⟩
      have hty2 : (l[k].fs[m].ty.toList == [73, 110, 116]) = false := hty
      go_wp2_with fail
      refine (spec_find _ c l l[k].fs[m].ty _ (K1.out _ (Q2.out.trans (p3.out.mono (by omega)))) x2).mono ?_
      rintro e w4 ⟨rr, rfl, hf4, hb4⟩
      have b4 : Below (wr2.heap.size + 1) (wr2.alloc (.cells #[.string l[k].fs[m].nm, .slice a6 l[k].fs[m].args.length c6, .string l[k].fs[m].ty, .bool l[k].fs[m].ls, .bool l[k].fs[m].bg] 53)) w4 := b3.trans (hb4.mono (by have := p3.out.size; have := b3.size; simp at this; omega))
      have p4 : Hid (Below wr2.heap.size wr2 w4) := p3.out.trans (hb4.mono p3.out.size)
      have y4 := fun o => b4.cell (p := ⟨wr2.heap.size, o, none⟩) (show wr2.heap.size < wr2.heap.size + 1 by omega)
      clear hb4 y3 s3
      rcases hf4.neg with ⟨hrr, hsn⟩ | ⟨hrr, hsn⟩
      · have HN : Hid (¬ SchOK l) := NT.out fun h => by
          rcases (h.2.2.2.2 _ (List.getElem_mem hlm)).1 with h | h
          · rw [hty] at h; cases h
          · rw [hsn] at h; cases h
        clear hf4 hsn
        go_wp2_with fail
        go_ret
        exact ⟨Says.no HN.out, Q2.out.trans (p4.out.mono (by omega))⟩
      have HTY : Hid (isIn l[k].fs[m].ty = true ∨ seen (l.map Td.nm) l[k].fs[m].ty = true) := .inr hsn
      clear hf4 hsn
      by_cases h4 : 4 < l[k].fs[m].args.length
      · have HN : Hid (¬ SchOK l) := NT.out fun h => by have := (h.2.2.2.2 _ (List.getElem_mem hlm)).2.1; omega
        go_wp2_with fail
        go_ret
        exact ⟨Says.no HN.out, Q2.out.trans (p4.out.mono (by omega))⟩
      go_wp2_with fail
      have bW : Hid _ := b4
      clear b3 b4 y4 s0 j0 j1
      go_loopw [7] (fun i w' => ∃ (n : Nat), n ≤ l[k].fs[m].args.length ∧ i = .int .i64 n ∧ Below (wr2.heap.size + 1) (wr2.alloc (.cells #[.string l[k].fs[m].nm, .slice a6 l[k].fs[m].args.length c6, .string l[k].fs[m].ty, .bool l[k].fs[m].ls, .bool l[k].fs[m].bg] 53)) w' ∧ Hid (∀ j, j < n → GoodN (l[k].fs[m].args.map Ag.nm) j)) (fun i _ => l[k].fs[m].args.length - (intOf i).toNat)
      case atStart => exact ⟨0, by omega, rfl, bW.out, fun j h => by omega⟩
      case round =>
        obtain ⟨wr3, rfl⟩ : ∃ x, x = wr := ⟨_, rfl⟩
        obtain ⟨n, hn3, rfl, hb4, HJ⟩ := hrel
        have hz4 := size_one hb4
        have zz4 : wr2.heap.size < wr3.heap.size := by omega
        have P4 : Hid (Below wr2.heap.size wr2 wr3) := Y0.out.trans (hb4.mono (by omega))
        have q0 : wr3.cell? ⟨wr2.heap.size, 0, none⟩ = some (.string l[k].fs[m].nm) := (hb4.cell (p := ⟨wr2.heap.size, 0, none⟩) (show wr2.heap.size < wr2.heap.size + 1 by omega)).trans (row_cell (heap_alloc_new _ _) 0)
        have q1 : wr3.cell? ⟨wr2.heap.size, 1, none⟩ = some (.slice a6 l[k].fs[m].args.length c6) := (hb4.cell (p := ⟨wr2.heap.size, 1, none⟩) (show wr2.heap.size < wr2.heap.size + 1 by omega)).trans (row_cell (heap_alloc_new _ _) 1)
        have q2 : wr3.cell? ⟨wr2.heap.size, 2, none⟩ = some (.string l[k].fs[m].ty) := (hb4.cell (p := ⟨wr2.heap.size, 2, none⟩) (show wr2.heap.size < wr2.heap.size + 1 by omega)).trans (row_cell (heap_alloc_new _ _) 2)
        have q3 : wr3.cell? ⟨wr2.heap.size, 3, none⟩ = some (.bool l[k].fs[m].ls) := (hb4.cell (p := ⟨wr2.heap.size, 3, none⟩) (show wr2.heap.size < wr2.heap.size + 1 by omega)).trans (row_cell (heap_alloc_new _ _) 3)
        have q4 : wr3.cell? ⟨wr2.heap.size, 4, none⟩ = some (.bool l[k].fs[m].bg) := (hb4.cell (p := ⟨wr2.heap.size, 4, none⟩) (show wr2.heap.size < wr2.heap.size + 1 by omega)).trans (row_cell (heap_alloc_new _ _) 4)
        have HB4 : Hid _ := hb4
        clear hb4
        by_cases hln : n < l[k].fs[m].args.length
        case neg =>
          have HN : Hid (PreF (l.map Td.nm) l[k].fs (m + 1)) := by
            have e : n = l[k].fs[m].args.length := by omega
            exact ⟨good_next HF.out.1 HSF.out, all_take hlm HF.out.2 ⟨ht, HTY.out, by omega, okN_of (fun j hj => HJ.out j (by simp at hj; omega))⟩⟩
          have HW : Hid (Below (wo.heap.size + 1) (wo.alloc (.cells #[.string l[k].nm, .slice (some ⟨b5, o5, none⟩) l[k].fs.length c5] 49)) wr3) := HB2.out.trans (P4.out.mono (by omega))
          go_wp2_with fail
          go_roundw
          case rel => exact ⟨m + 1, by omega, by go_num, HW.out, HN⟩
          case measure => simp [intOf]; omega
        obtain ⟨b7, o7, ha7, _, hbl7, g0, g1'⟩ := AgRow.cells (AgRow.keep (K5.out _ (Below.refl _ _)) (agree P4.out (Nat.le_refl _))) n hln
        subst ha7
        have hln2 : n < (l[k].fs[m].args.map Ag.nm).length := by simpa using hln
        have hln3 : (n : Int) < l[k].fs[m].args.length := by omega
        have HH : Hid ((l[k].fs[m].args.map Ag.nm)[n] = l[k].fs[m].args[n].nm) := by simp [Hid]
        have sg : l[k].fs[m].args[n].nm.size ≤ maxLen := by have : l[k].fs[m].args[n].nm.size ≤ 1048576 := HZ.out.2.1.2 _ (List.getElem_mem hln); unfold maxLen; omega
        cases hna : nameB l[k].fs[m].args[n].nm
        · have HN : Hid (¬ SchOK l) := NT.out fun h => by have := ((h.2.2.2.2 _ (List.getElem_mem hlm)).2.2 n hln2).1; rw [HH.out, hna] at this; cases this
          go_wp2_with fail
          go_quiet ((go_at_call 41; exact Calls.quiet_of_same (spec_name_of hna _ sg)))
          go_wp2_with fail
          go_ret
          exact ⟨Says.no HN.out, Q2.out.trans (Below.mono (P4.out.trans (by exact ⟨rfl, rfl, rfl, Nat.le_refl _, fun _ _ => rfl⟩)) (by omega))⟩
        · go_wp2_with fail
          go_region_with (first
            | (go_at_call 41; refine (spec_nameOK l[k].fs[m].args[n].nm _ sg).mono ?_; rw [hna]; rintro e w5 ⟨rfl, rfl⟩)
            | (go_at_call 43; refine (spec_arg l[k].fs[m] _ c6 l[k].fs[m].args[n].nm _ (K5.out _ P4.out.drew) hal).mono ?_; rintro e w6 ⟨r2, rfl, hf2, hb6⟩))
          all_goals
            have hf2 : Fi (l[k].fs[m].args.map Ag.nm) (l[k].fs[m].args.map Ag.nm)[n] r2 := by rw [HH.out]; exact hf2
            rcases hf2.at_ hln2 with ⟨hrk, hsn⟩ | ⟨hrk, hsn⟩
            · subst hrk
              have HN : Hid (∀ j, j < n + 1 → GoodN (l[k].fs[m].args.map Ag.nm) j) := good_next HJ.out (fun _ => ⟨by rw [HH.out]; exact hna, hsn⟩)
              have HW : Hid (Below (wr2.heap.size + 1) (wr2.alloc (.cells #[.string l[k].fs[m].nm, .slice (some ⟨b7, o7, none⟩) l[k].fs[m].args.length c6, .string l[k].fs[m].ty, .bool l[k].fs[m].ls, .bool l[k].fs[m].bg] 53)) w6) := HB4.out.drew.trans (hb6.mono (by have : wr3.drew.heap.size = wr3.heap.size := rfl; omega))
              clear hf2 hsn hb6
              go_wp2_with fail
              go_roundw
              case rel => exact ⟨n + 1, by omega, by go_num, HW.out, HN⟩
              case measure => simp [intOf]; omega
            · have HN : Hid (¬ SchOK l) := NT.out fun h => by have := ((h.2.2.2.2 _ (List.getElem_mem hlm)).2.2 n hln2).2; rw [hsn] at this; cases this
              have hrb : (r2 == (n : Int)) = false := by rw [beq_eq_false_iff_ne]; exact hrk
              have hrc : (r2 != (n : Int)) = true := by simpa using hrk
              have HW : Hid (Below wr2.heap.size wr2 w6) := P4.out.drew.trans (hb6.mono (by have : wr3.drew.heap.size = wr3.heap.size := rfl; omega))
              clear hf2 hsn hb6
              go_wp2_with fail
              go_ret
              exact ⟨Says.no HN.out, Q2.out.trans (HW.out.mono (by omega))⟩
end Go.Proofs.YtnfoinmccigdfaaGreatDoor.G
