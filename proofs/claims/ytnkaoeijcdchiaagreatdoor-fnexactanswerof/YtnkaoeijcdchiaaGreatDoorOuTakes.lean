/- The program's OutOK: takes, and all of it. -/
import Derived.Test.YtnkaoeijcdchiaaGreatDoorOuTake
namespace Go.Proofs.YtnkaoeijcdchiaaGreatDoor.G
open Go.ChangeShapes Go.WideShapes Go.ChangeAt Go.RowKit
set_option linter.unusedVariables false

/-- What is there stays, but for one block. -/
structure KpO (B : Nat) (w w' : World) : Prop where
  below : Below B w w'
  block : ∀ g, g < w.heap.size → g ≠ B → w'.heap[g]? = w.heap[g]?
theorem KpO.refl (B : Nat) (w : World) : KpO B w w := ⟨Below.refl _ _, fun _ _ _ => rfl⟩
theorem KpO.trans {B : Nat} {w w1 w2 : World} (h : KpO B w w1) (h' : KpO B w1 w2) : KpO B w w2 :=
  ⟨h.below.trans h'.below, fun g hg hn => (h'.block g (Nat.lt_of_lt_of_le hg h.below.size) hn).trans (h.block g hg hn)⟩
theorem KpO.of {B : Nat} {w w' : World} (h : Below w.heap.size w w') (hB : B ≤ w.heap.size) : KpO B w w' := ⟨h.mono hB, fun g hg _ => h.block g hg⟩
theorem KpO.set (B o : Nat) (w : World) (v : Value) : KpO B w (w.setCell ⟨B, o, none⟩ v) := ⟨Below.setCell (p := ⟨B, o, none⟩) (Below.refl B w) (Nat.le_refl B) v, fun g _ hn => Below.heap_setCell _ _ _ _ hn⟩
def RmAt (w : World) (B : Nat) (L : Int) : Prop := w.heap[B]? = some (.cells #[.int .i64 L] 128 (0, 0))
theorem RmAt.str {w : World} {B : Nat} {L : Int} (h : RmAt w B L) {n : Nat} {s : ByteArray} (hs : rdOf w B n = some (.string s)) : False := by
  rw [row_rd h] at hs
  rcases n with _ | n <;> simp at hs
theorem RmAt.lt {w : World} {B : Nat} {L : Int} (h : RmAt w B L) : B < w.heap.size := (Array.getElem?_eq_some_iff.1 h).1
theorem RmAt.keep {w w' : World} {B : Nat} {L : Int} (h : RmAt w B L) (hb : Below w.heap.size w w') : RmAt w' B L := (hb.block B h.lt).trans h
/-- Rows outlive a turn of the room. -/
theorem KeRow.but {hi : Nat} {w w' : World} {B : Nat} {L : Int} (hB : RmAt w B L) (hk : KpO B w w') (hh : hi ≤ w.heap.size) {a : Option Addr} {l : List ByteArray} (h : KeRow 0 hi w a l) : KeRow 0 hi w' a l := by
  rcases h with h | ⟨b, o, e, h1, h2, h3⟩
  · exact .inl h
  · by_cases hl : l = []
    · exact .inl hl
    · have hp : 0 < l.length := List.length_pos_iff.2 hl
      have hne : b ≠ B := fun e => by
        subst e
        exact hB.str (h3 0 l[0] (List.getElem?_eq_getElem hp))
      have hr : rdOf w' b = rdOf w b := by funext j; simp only [rdOf, World.cell?, hk.block b (by omega) hne]
      exact .inr ⟨b, o, e, h1, h2, fun i x hx => by rw [hr]; exact h3 i x hx⟩
theorem OuPre.but {hi : Nat} {w w' : World} {B : Nat} {L : Int} (hB : RmAt w B L) (hk : KpO B w w') (hh : hi ≤ w.heap.size) : ∀ {l : Ous} {rd : Nat → Option Value} {o k : Nat}, OuPre 0 hi w l rd o k → OuPre 0 hi w' l rd o k
  | .nil, _, _, _, _ => trivial
  | .cons h sub rest, rd, o, k, hp => by
    rcases hp with hp | ⟨⟨q0, q1, q2, a, c, q3, qc, q4⟩, ⟨a', c', p2, p3⟩, p4⟩
    · exact .inl hp
    · refine .inr ⟨⟨q0, q1, q2, a, c, q3, qc, KeRow.but hB hk hh q4⟩, ⟨a', c', p2, ?_⟩, OuPre.but hB hk hh p4⟩
      rcases p3 with p3 | ⟨b, o', e, e1, e2, p3⟩
      · exact .inl p3
      · cases sub with
        | nil => exact .inl rfl
        | cons h' sub' rest' =>
          have hne : b ≠ B := fun e => by
            subst e
            rcases p3 with p3 | ⟨⟨_, _, s2, _⟩, _⟩
            · simp [Ous.len] at p3
            · exact hB.str s2
          have hr : rdOf w' b = rdOf w b := by funext j; simp only [rdOf, World.cell?, hk.block b (by omega) hne]
          exact .inr ⟨b, o', e, e1, e2, by rw [hr]; exact OuPre.but hB hk hh p3⟩
theorem OuFrom.but {hi : Nat} {w w' : World} {B : Nat} {L : Int} (hB : RmAt w B L) (hk : KpO B w w') (hh : hi ≤ w.heap.size) {a : Option Addr} {k : Nat} {l : Ous} (h : OuFrom 0 hi w a k l) : OuFrom 0 hi w' a k l := by
  rcases h with h | ⟨b, o, e, e1, e2, p3⟩
  · exact .inl h
  · cases l with
    | nil => exact .inl rfl
    | cons h' sub' rest' =>
      have hne : b ≠ B := fun e => by
        subst e
        rcases p3 with p3 | ⟨⟨_, _, s2, _⟩, _⟩
        · simp [Ous.len] at p3
        · exact hB.str s2
      have hr : rdOf w' b = rdOf w b := by funext j; simp only [rdOf, World.cell?, hk.block b (by omega) hne]
      exact .inr ⟨b, o, e, e1, e2, by rw [hr]; exact OuPre.but hB hk hh p3⟩
/-- What takes tells. -/
def TakS (w : World) (B : Nat) (L : Int) (d : Nat) (l : Ous) (e : Ending) (w' : World) : Prop :=
  ∃ (L' : Int) (b : Bool), e = .returned (.bool b) ∧ b = (okO d l && decide ((l.size : Int) ≤ L)) ∧ 0 ≤ L' ∧ L' ≤ 4000 ∧ RmAt w' B L' ∧ (b = true → L' = L - l.size) ∧ KpO B w w'
def Takes (d : Nat) : Prop := ∀ (l : Ous) (a : Option Addr) (c B : Nat) (L D : Int) (w : World), D = 20 - (d : Int) → RmAt w B L → 0 ≤ L → L ≤ 4000 → OuRow 0 w.heap.size w a l → l.len ≤ 1048576 → OusBd 1048576 l →
    Calls Tryz.prog 87 #[.pointer (some ⟨B, 0, none⟩), .int .i64 D, .slice a l.len c] w fun e w' => TakS w B L d l e w'
theorem okO_nil (d : Nat) : okO d .nil = true := by cases d <;> rfl
theorem oneO_head {d : Nat} {h : Oh} {sub : Ous} : oneO (d + 1) h sub = (headA h sub && keysB h.keys && okO d sub) := by
  rw [oneO, head_A, Nat.add_sub_cancel]; simp
set_option maxHeartbeats 8000000 in
set_option maxRecDepth 20000 in
theorem impl_takes : ∀ d : Nat, d ≤ 20 → Takes d := by
  intro d
  induction d with
  | zero =>
    intro _ l a c B L D w hD hB hL0 hL1 hr hl hs
    have HB : Hid _ := hB
    have hD' : D = 20 := by omega
    subst hD'
    clear hB hr hs hD
    cases l with
    | nil =>
      have HF : Hid (TakS w B L 0 .nil (.returned (.bool true)) w) := ⟨L, true, rfl, by simp [okO, Ous.size, hL0], hL0, hL1, HB.out, fun _ => by simp [Ous.size], KpO.refl _ _⟩
      simp only [Ous.len]
      go_enter Tryz.func87, Tryz.ntmps87
      go_wp2_with fail
      go_ret
      exact HF.out
    | cons h sub rest =>
      have HF : Hid (TakS w B L 0 (.cons h sub rest) (.returned (.bool false)) w) := ⟨L, false, rfl, by simp [okO], hL0, hL1, HB.out, fun e => (by cases e), KpO.refl _ _⟩
      have hp : (((Ous.cons h sub rest).len : Int) == 0) = false := by simp [Ous.len]; omega
      generalize hll : (Ous.cons h sub rest).len = n at hl hp ⊢
      clear hll
      go_enter Tryz.func87, Tryz.ntmps87
      go_wp2_with fail
      go_ret
      exact HF.out
  | succ d ih =>
    intro hd l a c B L D w hD hB hL0 hL1 hr hl hs
    have HB : Hid _ := hB
    have HR : Hid (OuFrom 0 w.heap.size w a 0 l) := hr.from_
    have HS : Hid _ := hs
    have IH : Hid (Takes d) := ih (by omega)
    have HD : Hid (D + 1 = 20 - (d : Int)) := by unfold Hid; omega
    have hD1 : 0 ≤ D ∧ D ≤ 19 := by omega
    obtain ⟨hD0, hD1⟩ := hD1
    have zB := hB.lt
    clear hB hr hs ih hD
    by_cases hn : l.len = 0
    · have HF : Hid (TakS w B L (d + 1) l (.returned (.bool true)) w) := by
        rw [Ous.nil_of hn]
        exact ⟨L, true, rfl, by simp [okO, Ous.size, hL0], hL0, hL1, HB.out, fun _ => by simp [Ous.size], KpO.refl _ _⟩
      have hn' : ((l.len : Int) == 0) = true := by simp [hn]
      clear hn
      go_enter Tryz.func87, Tryz.ntmps87
      go_wp2_with fail
      go_ret
      exact HF.out
    have hn' : ((l.len : Int) == 0) = false := beq_eq_false_iff_ne.2 (by omega)
    have cB := fun o => row_cell HB.out o
    have cf := fun o => row_frozen HB.out o
    clear hn
    by_cases hbig : L < l.len
    · have HF : Hid (TakS w B L (d + 1) l (.returned (.bool false)) w) := by
        refine ⟨L, false, rfl, ?_, hL0, hL1, HB.out, fun e => (by cases e), KpO.refl _ _⟩
        have := l.len_le_size
        rw [decide_eq_false (by omega)]; simp
      go_enter Tryz.func87, Tryz.ntmps87
      go_wp2_with fail
      go_ret
      exact HF.out
    obtain ⟨L1, hL1'⟩ : ∃ L1 : Int, L1 = L - l.len := ⟨_, rfl⟩
    obtain ⟨V, hV⟩ : ∃ V, V = w.setCell ⟨B, 0, none⟩ (.int .i64 L1) := ⟨_, rfl⟩
    have HBV : Hid (RmAt V B L1) := by rw [hV]; exact row_set HB.out 0 (.int .i64 L1)
    have HKV : Hid (KpO B w V) := by rw [hV]; exact KpO.set B 0 w _
    have HL1 : Hid (L1 = L - l.len) := hL1'
    have hL1a : 0 ≤ L1 := by omega
    have hL1b : L1 ≤ 4000 := by omega
    have HRV : Hid (OuFrom 0 V.heap.size V a 0 l) := OuFrom.wide (OuFrom.but HB.out HKV.out (Nat.le_refl _) HR.out) (Nat.le_refl _) HKV.out.below.size
    have zV : B < V.heap.size := HBV.out.lt
    go_enter Tryz.func87, Tryz.ntmps87
    go_upto_region 6 with fail
    rw [← hL1', ← hV]
    clear hL1' hV cB cf HR
    go_wp2_with fail
    go_loopw [34] (fun x w' => ∃ (i : Nat) (q : Int) (rest : Ous), x = .int .i64 i ∧ i + rest.len = l.len ∧ 0 ≤ q ∧ q ≤ 4000 ∧ Hid (RmAt w' B q) ∧ Hid (KpO B V w') ∧ Hid (OuFrom 0 V.heap.size w' a i rest) ∧ Hid (OusBd 1048576 rest) ∧ Hid (q - ((rest.size : Int) - rest.len) = L - l.size) ∧ Hid (okO (d + 1) l = okO (d + 1) rest)) (fun x _ => l.len - (intOf x).toNat)
    case atStart => exact ⟨0, L1, l, rfl, by omega, hL1a, hL1b, HBV, KpO.refl _ _, HRV, HS, by have := HL1.out; unfold Hid; omega, rfl⟩
    case round =>
      obtain ⟨wo, rfl⟩ : ∃ x, x = wr := ⟨_, rfl⟩
      obtain ⟨i, q, rest, rfl, hi, hq1, hq2, HQ, HK, HF, HD3, HSZ, HO⟩ := hrel
      have hzo := HK.out.below.size
      have HKW : Hid (KpO B w wo) := HKV.out.trans HK.out
      cases rest with
      | nil =>
        simp only [Ous.len, Nat.add_zero] at hi
        have HFIN : Hid (TakS w B L (d + 1) l (.returned (.bool true)) wo) := by
          have h1 := HSZ.out
          simp only [Ous.size, Ous.len] at h1
          refine ⟨q, true, rfl, ?_, hq1, hq2, HQ.out, fun _ => by omega, HKW.out⟩
          rw [HO.out, okO_nil, decide_eq_true (by omega)]; rfl
        have hnl : ¬ (i : Int) < l.len := by omega
        clear hi
        go_wp2_with fail
        go_ret
        exact HFIN.out
      | cons h sub rest =>
        have hlt : (i : Int) < l.len := by simp only [Ous.len] at hi; omega
        obtain ⟨b, o, a1, c1, a2, c2, ha, _, hbl, d0, d1, d2, d3, d4, hc, r1, r2, rf⟩ := OuFrom.step HF.out
        subst ha
        obtain ⟨g1, g2, g3, g4⟩ := HD3.out
        obtain ⟨g11, g12, g13⟩ := g1
        have G13 : Hid _ := g13
        have E3 : Hid (OusBd 1048576 sub) := g3
        have E4 : Hid (OusBd 1048576 rest) := g4
        have HOR : Hid (okO (d + 1) (.cons h sub rest) = (headA h sub && keysB h.keys && okO d sub && okO (d + 1) rest)) := by
          rw [Hid, okO_cons, oneO_head]
        have R1 : Hid (KeRow 0 wo.heap.size wo a1 h.keys) := KeRow.wide r1 (Nat.le_refl _) hzo
        have R2 : Hid (OuRow 0 wo.heap.size wo a2 sub) := OuRow.wide r2 (Nat.le_refl _) hzo
        have RF : Hid (OuFrom 0 V.heap.size wo (some ⟨b, o, none⟩) (i + 1) rest) := rf
        have hT1 : h.t.size ≤ maxLen := by unfold maxLen; omega
        have zo : B < wo.heap.size := HQ.out.lt
        obtain ⟨U, hU⟩ : ∃ U, U = wo.alloc (.cells #[.int .i64 h.k, .int .i64 h.n, .string h.t, .slice a1 h.keys.length c1, .slice a2 sub.len c2] 44) := ⟨_, rfl⟩
        have BU : Below wo.heap.size wo U := by rw [hU]; exact (Below.refl _ _).alloc (Nat.le_refl _) _
        have c0 : U.heap[wo.heap.size]? = some (.cells #[.int .i64 h.k, .int .i64 h.n, .string h.t, .slice a1 h.keys.length c1, .slice a2 sub.len c2] 44 (0, 0)) := by rw [hU]; exact heap_alloc_new _ _
        have x0 := fun o => row_cell c0 o
        have HBU : Hid _ := BU
        have HC0 : Hid _ := c0
        have zU : wo.heap.size < U.heap.size := (Array.getElem?_eq_some_iff.1 c0).1
        clear g13 g3 g4 r1 r2 rf BU c0 HF
        go_upto_region 9 with fail
        rw [← hU]
        clear hU
        go_wp2_with fail
        refine (impl_alone h sub a1 a2 c1 c2 _ hT1).mono ?_
        rintro e w1 ⟨rfl, hb1⟩
        have HB1 : Hid (Below wo.heap.size wo w1) := HBU.out.trans (hb1.mono HBU.out.size)
        have HC1 : Hid (w1.heap[wo.heap.size]? = some (.cells #[.int .i64 h.k, .int .i64 h.n, .string h.t, .slice a1 h.keys.length c1, .slice a2 sub.len c2] 44 (0, 0))) := (hb1.block _ zU).trans HC0.out
        have z1 : wo.heap.size < w1.heap.size := (Array.getElem?_eq_some_iff.1 HC1.out).1
        have x1 := fun o => row_cell HC1.out o
        have HQ1 : Hid (RmAt w1 B q) := HQ.out.keep HB1.out
        clear hb1 x0 HBU HC0 zU d0 d1 d2 d3 d4
        cases hA : headA h sub
        · have HFL : Hid (TakS w B L (d + 1) l (.returned (.bool false)) w1) := by
            refine ⟨q, false, rfl, ?_, hq1, hq2, HQ1.out, fun e => (by cases e), HKW.out.trans (KpO.of HB1.out (by omega))⟩
            rw [HO.out, HOR.out, hA]; rfl
          clear hA
          go_wp2_with fail
          go_ret
          exact HFL.out
        have HA : Hid _ := hA
        clear hA
        go_wp2_with fail
        refine (IH.out sub a2 c2 B q _ w1 HD.out HQ1.out hq1 hq2 (OuRow.up R2.out HB1.out) g2 E3.out).mono ?_
        rintro e w2 ⟨q', b', rfl, hb', hq1', hq2', hQ2, hqq, hK2⟩
        have HQ2 : Hid (RmAt w2 B q') := hQ2
        have HK2 : Hid (KpO B wo w2) := (KpO.of HB1.out (by omega)).trans hK2
        have HC2 : Hid (w2.heap[wo.heap.size]? = some (.cells #[.int .i64 h.k, .int .i64 h.n, .string h.t, .slice a1 h.keys.length c1, .slice a2 sub.len c2] 44 (0, 0))) := (hK2.block _ z1 (by omega)).trans HC1.out
        have x2 := fun o => row_cell HC2.out o
        have R12 : Hid (KeRow 0 w2.heap.size w2 a1 h.keys) := KeRow.wide (KeRow.but HQ.out HK2.out (Nat.le_refl _) R1.out) (Nat.le_refl _) HK2.out.below.size
        have RF2 : Hid (OuFrom 0 V.heap.size w2 (some ⟨b, o, none⟩) (i + 1) rest) := OuFrom.but HQ.out HK2.out hzo RF.out
        have HB' : Hid _ := hb'
        have HQQ : Hid _ := hqq
        clear hb' hqq hQ2 hK2 x1 HQ1 HC1 HB1 R1 R2 RF
        cases b'
        · have HFL : Hid (TakS w B L (d + 1) l (.returned (.bool false)) w2) := by
            refine ⟨q', false, rfl, ?_, hq1', hq2', HQ2.out, fun e => (by cases e), HKW.out.trans HK2.out⟩
            cases ho : okO d sub
            · rw [HO.out, HOR.out, ho]; simp
            · have h1 := HB'.out.symm
              rw [ho, Bool.true_and, decide_eq_false_iff_not] at h1
              have h2 := HSZ.out
              simp only [Ous.size, Ous.len] at h2
              have h3 := rest.len_le_size
              rw [decide_eq_false (by omega)]; simp
          go_wp2_with fail
          go_ret
          exact HFL.out
        have hb2 := HB'.out.symm
        rw [Bool.and_eq_true, decide_eq_true_eq] at hb2
        have HOS : Hid _ := hb2.1
        have HQ' : Hid (q' = q - sub.size) := HQQ.out rfl
        clear hb2
        go_wp2_with fail
        refine (impl_once a1 c1 h.keys _ R12.out g12 G13.out).mono ?_
        rintro e w3 ⟨rfl, hb3⟩
        have HB3 : Hid _ := hb3
        have HQ3 : Hid (RmAt w3 B q') := HQ2.out.keep hb3
        have HK3 : Hid (KpO B wo w3) := HK2.out.trans (KpO.of hb3 (by have := HQ2.out.lt; omega))
        have RF3 : Hid (OuFrom 0 V.heap.size w3 (some ⟨b, o, none⟩) (i + 1) rest) := OuFrom.keep RF2.out (agree hb3 (by have := HK2.out.below.size; omega))
        clear hb3 x2
        cases hKB : keysB h.keys
        · have HFL : Hid (TakS w B L (d + 1) l (.returned (.bool false)) w3) := by
            refine ⟨q', false, rfl, ?_, hq1', hq2', HQ3.out, fun e => (by cases e), HKW.out.trans HK3.out⟩
            rw [HO.out, HOR.out, hKB]; simp
          go_wp2_with fail
          go_ret
          exact HFL.out
        · have HO2 : Hid (okO (d + 1) l = okO (d + 1) rest) := by rw [Hid, HO.out, HOR.out, hKB, HA.out, HOS.out]; rfl
          have HSZ2 : Hid (q' - ((rest.size : Int) - rest.len) = L - l.size) := by
            have h2 := HSZ.out
            simp only [Ous.size, Ous.len] at h2
            have h4 := HQ'.out
            unfold Hid; omega
          have HK4 : Hid (KpO B V w3) := HK.out.trans HK3.out
          clear hKB
          go_wp2_with fail
          exact ⟨⟨i + 1, q', rest, by first | rfl | go_num, by simp only [Ous.len] at hi; omega, hq1', hq2', HQ3, HK4, RF3, E4, HSZ2, HO2⟩, by simp [intOf]; omega⟩
/-- One value laid as a list of one. -/
theorem one_row {h : Oh} {sub : Ous} {a1 a2 : Option Addr} {c1 c2 : Nat} {w w' : World} {B : Nat} {T : TypeId} (hw : Below w.heap.size w w') (r1 : KeRow 0 w.heap.size w a1 h.keys) (hc : h.keys.length ≤ c1) (r2 : OuRow 0 w.heap.size w a2 sub)
    (hB : w'.heap[B]? = some (.cells #[.int .i64 h.k, .int .i64 h.n, .string h.t, .slice a1 h.keys.length c1, .slice a2 sub.len c2] T (0, 0))) : OuRow 0 w'.heap.size w' (some ⟨B, 0, none⟩) (.cons h sub .nil) := by
  have hr := row_rd hB
  refine .inr ⟨B, 0, rfl, Nat.zero_le _, (Array.getElem?_eq_some_iff.1 hB).1, .inr ⟨⟨?_, ?_, ?_, a1, c1, ?_, hc, KeRow.up r1 hw⟩, ⟨a2, c2, ?_, OuRow.up r2 hw⟩, trivial⟩⟩
  all_goals rw [hr]; rfl
theorem outB_list (h : Oh) (sub : Ous) : outB 20 h sub = (okO 20 (.cons h sub .nil) && decide (((Ous.cons h sub .nil).size : Int) ≤ 4000)) := by
  rw [okO_cons, outB, okO_nil, Bool.and_true]
  congr 1
  have e : (Ous.cons h sub .nil).size = 1 + sub.size := by simp [Ous.size]
  rw [e, decide_eq_decide]; omega
set_option maxHeartbeats 4000000 in
set_option maxRecDepth 20000 in
theorem impl_outOK (h : Oh) (sub : Ous) (a1 a2 : Option Addr) (c1 c2 : Nat) (w : World) (r1 : KeRow 0 w.heap.size w a1 h.keys) (hc : h.keys.length ≤ c1) (r2 : OuRow 0 w.heap.size w a2 sub) (hb : OhBd 1048576 h) (hl : sub.len ≤ 1048576) (hs : OusBd 1048576 sub) :
    Calls Tryz.prog 60 #[.agg #[.int .i64 h.k, .int .i64 h.n, .string h.t, .slice a1 h.keys.length c1, .slice a2 sub.len c2]] w fun e w' => e = .returned (.bool (outB 20 h sub)) ∧ Below w.heap.size w w' := by
  obtain ⟨V, hV⟩ : ∃ V, V = (((w.alloc (.cells #[.int .i64 h.k, .int .i64 h.n, .string h.t, .slice a1 h.keys.length c1, .slice a2 sub.len c2] 44)).alloc (.cells #[.int .i64 4000] 128)).alloc (.cells #[.int .i64 h.k, .int .i64 h.n, .string h.t, .slice a1 h.keys.length c1, .slice a2 sub.len c2] 44)) := ⟨_, rfl⟩
  have hB : Below w.heap.size w V := by
    rw [hV]
    repeat (first | exact Below.refl _ _ | refine Below.alloc ?_ (by first | omega | (simp <;> omega)) _)
  have hL : V.heap[w.heap.size + 1 + 1]? = some (.cells #[.int .i64 h.k, .int .i64 h.n, .string h.t, .slice a1 h.keys.length c1, .slice a2 sub.len c2] 44 (0, 0)) := by
    rw [hV]
    have := heap_alloc_new ((w.alloc (.cells #[.int .i64 h.k, .int .i64 h.n, .string h.t, .slice a1 h.keys.length c1, .slice a2 sub.len c2] 44)).alloc (.cells #[.int .i64 4000] 128)) (.cells #[.int .i64 h.k, .int .i64 h.n, .string h.t, .slice a1 h.keys.length c1, .slice a2 sub.len c2] 44 (0, 0))
    simpa using this
  have hM : RmAt V (w.heap.size + 1) 4000 := by
    rw [hV]
    have h1 := heap_alloc_new (w.alloc (.cells #[.int .i64 h.k, .int .i64 h.n, .string h.t, .slice a1 h.keys.length c1, .slice a2 sub.len c2] 44)) (.cells #[.int .i64 4000] 128 (0, 0))
    refine (Below.heap_alloc _ _ _ (by simp)).trans ?_
    simpa using h1
  have HRL : Hid _ := one_row hB r1 hc r2 hL
  have HBV : Hid _ := hB
  have HM : Hid _ := hM
  have HS : Hid (OusBd 1048576 (.cons h sub .nil)) := ⟨hb, hl, hs, trivial⟩
  clear hB hL hM r1 r2 hb hs
  go_enter Tryz.func60, Tryz.ntmps60
  go_wp2_with fail
  rw [← hV]
  clear hV
  refine (impl_takes 20 (by omega) (.cons h sub .nil) (some ⟨w.heap.size + 1 + 1, 0, none⟩) 1 (w.heap.size + 1) 4000 0 V (by omega) HM.out (by omega) (by omega) HRL.out (by simp [Ous.len]) HS.out).mono ?_
  rintro e w1 ⟨L', b, rfl, hb', _, _, _, _, hk⟩
  have HF : Hid (b = outB 20 h sub) := by rw [outB_list]; exact hb'
  have HQ : Hid (Below w.heap.size w w1) := HBV.out.trans (hk.below.mono (by omega))
  clear hb' hk
  go_wp2_with fail
  go_ret
  exact ⟨ret_bool HF.out, HQ.out⟩
end Go.Proofs.YtnkaoeijcdchiaaGreatDoor.G
