/- OutText, on both sides. -/
import Derived.Test.YtoaeggfnlenjkaaGreatDoorOuTake
import Derived.Test.YtoaeggfnlenjkaaGreatDoorOuPairs
namespace Go.Proofs.YtoaeggfnlenjkaaGreatDoor.G
open Go.ChangeShapes Go.WideShapes Go.ChangeAt Go.RowKit
set_option linter.unusedVariables false

/-- What is there stays, but for one block. -/
structure KpO (B : Nat) (w w' : World) : Prop where
  below : Below B w w'
  block : ∀ g, g < w.heap.size → g ≠ B → w'.heap[g]? = w.heap[g]?
theorem KpO.refl (B : Nat) (w : World) : KpO B w w := ⟨Below.refl _ _, fun _ _ _ => rfl⟩
theorem KpO.trans {B : Nat} {w w1 w2 : World} (h : KpO B w w1) (h' : KpO B w1 w2) : KpO B w w2 :=
  ⟨h.below.trans h'.below, fun g hg hn => (h'.block g (Nat.lt_of_lt_of_le hg h.below.size) hn).trans (h.block g hg hn)⟩
theorem KpO.of {B : Nat} {w w' : World} (h : Below w.heap.size w w') (hB : B ≤ w.heap.size) : KpO B w w' := ⟨h.mono hB, fun g hg _ => h.block g hg⟩
theorem KpO.set (B o : Nat) (w : World) (v : Value) : KpO B w (w.setCell ⟨B, o, none⟩ v) := ⟨Below.setCell (p := ⟨B, o, none⟩) (Below.refl B w) (Nat.le_refl B) v, fun g _ hn => Below.heap_setCell _ _ _ _ hn⟩
def RmAt (w : World) (B : Nat) (L : Int) : Prop := w.heap[B]? = some (.cells #[.int .i64 L] 84 (0, 0))
theorem RmAt.str {w : World} {B : Nat} {L : Int} (h : RmAt w B L) {n : Nat} {s : ByteArray} (hs : rdOf w B n = some (.string s)) : False := by
  rw [row_rd h] at hs
  rcases n with _ | n <;> simp at hs
theorem RmAt.lt {w : World} {B : Nat} {L : Int} (h : RmAt w B L) : B < w.heap.size := (Array.getElem?_eq_some_iff.1 h).1
theorem RmAt.keep {w w' : World} {B : Nat} {L : Int} (h : RmAt w B L) (hb : Below w.heap.size w w') : RmAt w' B L := (hb.block B h.lt).trans h
/-- Rows outlive a turn of the room. -/
theorem KeRow.but {hi : Nat} {w w' : World} {B : Nat} {L : Int} (hB : RmAt w B L) (hk : KpO B w w') (hh : hi ≤ w.heap.size) {a : Option Addr} {l : List ByteArray} (h : KeRow 0 hi w a l) : KeRow 0 hi w' a l := by
  rcases h with h | ⟨b, o, e, h1, h2, h3⟩
  · exact .inl h
  · by_cases hl : l = []
    · exact .inl hl
    · have hp : 0 < l.length := List.length_pos_iff.2 hl
      have hne : b ≠ B := fun e => by
        subst e
        exact hB.str (h3 0 l[0] (List.getElem?_eq_getElem hp))
      have hr : rdOf w' b = rdOf w b := by funext j; simp only [rdOf, World.cell?, hk.block b (by omega) hne]
      exact .inr ⟨b, o, e, h1, h2, fun i x hx => by rw [hr]; exact h3 i x hx⟩
theorem OuPre.but {hi : Nat} {w w' : World} {B : Nat} {L : Int} (hB : RmAt w B L) (hk : KpO B w w') (hh : hi ≤ w.heap.size) : ∀ {l : Ous} {rd : Nat → Option Value} {o k : Nat}, OuPre 0 hi w l rd o k → OuPre 0 hi w' l rd o k
  | .nil, _, _, _, _ => trivial
  | .cons h sub rest, rd, o, k, hp => by
    rcases hp with hp | ⟨⟨q0, q1, q2, a, c, q3, qc, q4⟩, ⟨a', c', p2, p3⟩, p4⟩
    · exact .inl hp
    · refine .inr ⟨⟨q0, q1, q2, a, c, q3, qc, KeRow.but hB hk hh q4⟩, ⟨a', c', p2, ?_⟩, OuPre.but hB hk hh p4⟩
      rcases p3 with p3 | ⟨b, o', e, e1, e2, p3⟩
      · exact .inl p3
      · cases sub with
        | nil => exact .inl rfl
        | cons h' sub' rest' =>
          have hne : b ≠ B := fun e => by
            subst e
            rcases p3 with p3 | ⟨⟨_, _, s2, _⟩, _⟩
            · simp [Ous.len] at p3
            · exact hB.str s2
          have hr : rdOf w' b = rdOf w b := by funext j; simp only [rdOf, World.cell?, hk.block b (by omega) hne]
          exact .inr ⟨b, o', e, e1, e2, by rw [hr]; exact OuPre.but hB hk hh p3⟩
theorem OuFrom.but {hi : Nat} {w w' : World} {B : Nat} {L : Int} (hB : RmAt w B L) (hk : KpO B w w') (hh : hi ≤ w.heap.size) {a : Option Addr} {k : Nat} {l : Ous} (h : OuFrom 0 hi w a k l) : OuFrom 0 hi w' a k l := by
  rcases h with h | ⟨b, o, e, e1, e2, p3⟩
  · exact .inl h
  · cases l with
    | nil => exact .inl rfl
    | cons h' sub' rest' =>
      have hne : b ≠ B := fun e => by
        subst e
        rcases p3 with p3 | ⟨⟨_, _, s2, _⟩, _⟩
        · simp [Ous.len] at p3
        · exact hB.str s2
      have hr : rdOf w' b = rdOf w b := by funext j; simp only [rdOf, World.cell?, hk.block b (by omega) hne]
      exact .inr ⟨b, o, e, e1, e2, by rw [hr]; exact OuPre.but hB hk hh p3⟩
/-- What takes tells. -/
def TakS (w : World) (B : Nat) (L : Int) (d : Nat) (l : Ous) (e : Ending) (w' : World) : Prop :=
  ∃ (L' : Int) (b : Bool), e = .returned (.bool b) ∧ b = (okO d l && decide ((l.size : Int) ≤ L)) ∧ 0 ≤ L' ∧ L' ≤ 4000 ∧ RmAt w' B L' ∧ (b = true → L' = L - l.size) ∧ KpO B w w'
def Takes (d : Nat) : Prop := ∀ (l : Ous) (a : Option Addr) (c B : Nat) (L D : Int) (w : World), D = 20 - (d : Int) → RmAt w B L → 0 ≤ L → L ≤ 4000 → OuRow 0 w.heap.size w a l → l.len ≤ 1048576 → OusBd 1048576 l →
    Calls Tryz.prog 51 #[.pointer (some ⟨B, 0, none⟩), .int .i64 D, .slice a l.len c] w fun e w' => TakS w B L d l e w'
theorem okO_nil (d : Nat) : okO d .nil = true := by cases d <;> rfl
theorem oneO_head {d : Nat} {h : Oh} {sub : Ous} : oneO (d + 1) h sub = (headA h sub && keysB h.keys && okO d sub) := by
  rw [oneO, head_A, Nat.add_sub_cancel]; simp
set_option maxHeartbeats 8000000 in
set_option maxRecDepth 20000 in
theorem impl_takes : ∀ d : Nat, d ≤ 20 → Takes d := by
  intro d
  induction d with
  | zero =>
    intro _ l a c B L D w hD hB hL0 hL1 hr hl hs
    have HB : Hid _ := hB
    have hD' : D = 20 := by omega
    subst hD'
    clear hB hr hs hD
    cases l with
    | nil =>
      have HF : Hid (TakS w B L 0 .nil (.returned (.bool true)) w) := ⟨L, true, rfl, by simp [okO, Ous.size, hL0], hL0, hL1, HB.out, fun _ => by simp [Ous.size], KpO.refl _ _⟩
      simp only [Ous.len]
      go_enter Tryz.func51, Tryz.ntmps51
      go_wp2_with fail
      go_ret
      exact HF.out
    | cons h sub rest =>
      have HF : Hid (TakS w B L 0 (.cons h sub rest) (.returned (.bool false)) w) := ⟨L, false, rfl, by simp [okO], hL0, hL1, HB.out, fun e => (by cases e), KpO.refl _ _⟩
      have hp : (((Ous.cons h sub rest).len : Int) == 0) = false := by simp [Ous.len]; omega
      generalize hll : (Ous.cons h sub rest).len = n at hl hp ⊢
      clear hll
      go_enter Tryz.func51, Tryz.ntmps51
      go_wp2_with fail
      go_ret
      exact HF.out
  | succ d ih =>
    intro hd l a c B L D w hD hB hL0 hL1 hr hl hs
    have HB : Hid _ := hB
    have HR : Hid (OuFrom 0 w.heap.size w a 0 l) := hr.from_
    have HS : Hid _ := hs
    have IH : Hid (Takes d) := ih (by omega)
    have HD : Hid (D + 1 = 20 - (d : Int)) := by unfold Hid; omega
    have hD1 : 0 ≤ D ∧ D ≤ 19 := by omega
    obtain ⟨hD0, hD1⟩ := hD1
    have zB := hB.lt
    clear hB hr hs ih hD
    by_cases hn : l.len = 0
    · have HF : Hid (TakS w B L (d + 1) l (.returned (.bool true)) w) := by
        rw [Ous.nil_of hn]
        exact ⟨L, true, rfl, by simp [okO, Ous.size, hL0], hL0, hL1, HB.out, fun _ => by simp [Ous.size], KpO.refl _ _⟩
      have hn' : ((l.len : Int) == 0) = true := by simp [hn]
      clear hn
      go_enter Tryz.func51, Tryz.ntmps51
      go_wp2_with fail
      go_ret
      exact HF.out
    have hn' : ((l.len : Int) == 0) = false := beq_eq_false_iff_ne.2 (by omega)
    have cB := fun o => row_cell HB.out o
    have cf := fun o => row_frozen HB.out o
    clear hn
    by_cases hbig : L < l.len
    · have HF : Hid (TakS w B L (d + 1) l (.returned (.bool false)) w) := by
        refine ⟨L, false, rfl, ?_, hL0, hL1, HB.out, fun e => (by cases e), KpO.refl _ _⟩
        have := l.len_le_size
        rw [decide_eq_false (by omega)]; simp
      go_enter Tryz.func51, Tryz.ntmps51
      go_wp2_with fail
      go_ret
      exact HF.out
    obtain ⟨L1, hL1'⟩ : ∃ L1 : Int, L1 = L - l.len := ⟨_, rfl⟩
    obtain ⟨V, hV⟩ : ∃ V, V = w.setCell ⟨B, 0, none⟩ (.int .i64 L1) := ⟨_, rfl⟩
    have HBV : Hid (RmAt V B L1) := by rw [hV]; exact row_set HB.out 0 (.int .i64 L1)
    have HKV : Hid (KpO B w V) := by rw [hV]; exact KpO.set B 0 w _
    have HL1 : Hid (L1 = L - l.len) := hL1'
    have hL1a : 0 ≤ L1 := by omega
    have hL1b : L1 ≤ 4000 := by omega
    have HRV : Hid (OuFrom 0 V.heap.size V a 0 l) := OuFrom.wide (OuFrom.but HB.out HKV.out (Nat.le_refl _) HR.out) (Nat.le_refl _) HKV.out.below.size
    have zV : B < V.heap.size := HBV.out.lt
    go_enter Tryz.func51, Tryz.ntmps51
    go_upto_region 6 with fail
    rw [← hL1', ← hV]
    clear hL1' hV cB cf HR
    go_wp2_with fail
    go_loopw [34] (fun x w' => ∃ (i : Nat) (q : Int) (rest : Ous), x = .int .i64 i ∧ i + rest.len = l.len ∧ 0 ≤ q ∧ q ≤ 4000 ∧ Hid (RmAt w' B q) ∧ Hid (KpO B V w') ∧ Hid (OuFrom 0 V.heap.size w' a i rest) ∧ Hid (OusBd 1048576 rest) ∧ Hid (q - ((rest.size : Int) - rest.len) = L - l.size) ∧ Hid (okO (d + 1) l = okO (d + 1) rest)) (fun x _ => l.len - (intOf x).toNat)
    case atStart => exact ⟨0, L1, l, rfl, by omega, hL1a, hL1b, HBV, KpO.refl _ _, HRV, HS, by have := HL1.out; unfold Hid; omega, rfl⟩
    case round =>
      obtain ⟨wo, rfl⟩ : ∃ x, x = wr := ⟨_, rfl⟩
      obtain ⟨i, q, rest, rfl, hi, hq1, hq2, HQ, HK, HF, HD3, HSZ, HO⟩ := hrel
      have hzo := HK.out.below.size
      have HKW : Hid (KpO B w wo) := HKV.out.trans HK.out
      cases rest with
      | nil =>
        simp only [Ous.len, Nat.add_zero] at hi
        have HFIN : Hid (TakS w B L (d + 1) l (.returned (.bool true)) wo) := by
          have h1 := HSZ.out
          simp only [Ous.size, Ous.len] at h1
          refine ⟨q, true, rfl, ?_, hq1, hq2, HQ.out, fun _ => by omega, HKW.out⟩
          rw [HO.out, okO_nil, decide_eq_true (by omega)]; rfl
        have hnl : ¬ (i : Int) < l.len := by omega
        clear hi
        go_wp2_with fail
        go_ret
        exact HFIN.out
      | cons h sub rest =>
        have hlt : (i : Int) < l.len := by simp only [Ous.len] at hi; omega
        obtain ⟨b, o, a1, c1, a2, c2, ha, _, hbl, d0, d1, d2, d3, d4, hc, r1, r2, rf⟩ := OuFrom.step HF.out
        subst ha
        obtain ⟨g1, g2, g3, g4⟩ := HD3.out
        obtain ⟨g11, g12, g13⟩ := g1
        have G13 : Hid _ := g13
        have E3 : Hid (OusBd 1048576 sub) := g3
        have E4 : Hid (OusBd 1048576 rest) := g4
        have HOR : Hid (okO (d + 1) (.cons h sub rest) = (headA h sub && keysB h.keys && okO d sub && okO (d + 1) rest)) := by
          rw [Hid, okO_cons, oneO_head]
        have R1 : Hid (KeRow 0 wo.heap.size wo a1 h.keys) := KeRow.wide r1 (Nat.le_refl _) hzo
        have R2 : Hid (OuRow 0 wo.heap.size wo a2 sub) := OuRow.wide r2 (Nat.le_refl _) hzo
        have RF : Hid (OuFrom 0 V.heap.size wo (some ⟨b, o, none⟩) (i + 1) rest) := rf
        have hT1 : h.t.size ≤ maxLen := by unfold maxLen; omega
        have zo : B < wo.heap.size := HQ.out.lt
        obtain ⟨U, hU⟩ : ∃ U, U = wo.alloc (.cells #[.int .i64 h.k, .int .i64 h.n, .string h.t, .slice a1 h.keys.length c1, .slice a2 sub.len c2] 26) := ⟨_, rfl⟩
        have BU : Below wo.heap.size wo U := by rw [hU]; exact (Below.refl _ _).alloc (Nat.le_refl _) _
        have c0 : U.heap[wo.heap.size]? = some (.cells #[.int .i64 h.k, .int .i64 h.n, .string h.t, .slice a1 h.keys.length c1, .slice a2 sub.len c2] 26 (0, 0)) := by rw [hU]; exact heap_alloc_new _ _
        have x0 := fun o => row_cell c0 o
        have HBU : Hid _ := BU
        have HC0 : Hid _ := c0
        have zU : wo.heap.size < U.heap.size := (Array.getElem?_eq_some_iff.1 c0).1
        clear g13 g3 g4 r1 r2 rf BU c0 HF
        go_upto_region 9 with fail
        rw [← hU]
        clear hU
        go_wp2_with fail
        refine (impl_alone h sub a1 a2 c1 c2 _ hT1).mono ?_
        rintro e w1 ⟨rfl, hb1⟩
        have HB1 : Hid (Below wo.heap.size wo w1) := HBU.out.trans (hb1.mono HBU.out.size)
        have HC1 : Hid (w1.heap[wo.heap.size]? = some (.cells #[.int .i64 h.k, .int .i64 h.n, .string h.t, .slice a1 h.keys.length c1, .slice a2 sub.len c2] 26 (0, 0))) := (hb1.block _ zU).trans HC0.out
        have z1 : wo.heap.size < w1.heap.size := (Array.getElem?_eq_some_iff.1 HC1.out).1
        have x1 := fun o => row_cell HC1.out o
        have HQ1 : Hid (RmAt w1 B q) := HQ.out.keep HB1.out
        clear hb1 x0 HBU HC0 zU d0 d1 d2 d3 d4
        cases hA : headA h sub
        · have HFL : Hid (TakS w B L (d + 1) l (.returned (.bool false)) w1) := by
            refine ⟨q, false, rfl, ?_, hq1, hq2, HQ1.out, fun e => (by cases e), HKW.out.trans (KpO.of HB1.out (by omega))⟩
            rw [HO.out, HOR.out, hA]; rfl
          clear hA
          go_wp2_with fail
          go_ret
          exact HFL.out
        have HA : Hid _ := hA
        clear hA
        go_wp2_with fail
        refine (IH.out sub a2 c2 B q _ w1 HD.out HQ1.out hq1 hq2 (OuRow.up R2.out HB1.out) g2 E3.out).mono ?_
        rintro e w2 ⟨q', b', rfl, hb', hq1', hq2', hQ2, hqq, hK2⟩
        have HQ2 : Hid (RmAt w2 B q') := hQ2
        have HK2 : Hid (KpO B wo w2) := (KpO.of HB1.out (by omega)).trans hK2
        have HC2 : Hid (w2.heap[wo.heap.size]? = some (.cells #[.int .i64 h.k, .int .i64 h.n, .string h.t, .slice a1 h.keys.length c1, .slice a2 sub.len c2] 26 (0, 0))) := (hK2.block _ z1 (by omega)).trans HC1.out
        have x2 := fun o => row_cell HC2.out o
        have R12 : Hid (KeRow 0 w2.heap.size w2 a1 h.keys) := KeRow.wide (KeRow.but HQ.out HK2.out (Nat.le_refl _) R1.out) (Nat.le_refl _) HK2.out.below.size
        have RF2 : Hid (OuFrom 0 V.heap.size w2 (some ⟨b, o, none⟩) (i + 1) rest) := OuFrom.but HQ.out HK2.out hzo RF.out
        have HB' : Hid _ := hb'
        have HQQ : Hid _ := hqq
        clear hb' hqq hQ2 hK2 x1 HQ1 HC1 HB1 R1 R2 RF
        cases b'
        · have HFL : Hid (TakS w B L (d + 1) l (.returned (.bool false)) w2) := by
            refine ⟨q', false, rfl, ?_, hq1', hq2', HQ2.out, fun e => (by cases e), HKW.out.trans HK2.out⟩
            cases ho : okO d sub
            · rw [HO.out, HOR.out, ho]; simp
            · have h1 := HB'.out.symm
              rw [ho, Bool.true_and, decide_eq_false_iff_not] at h1
              have h2 := HSZ.out
              simp only [Ous.size, Ous.len] at h2
              have h3 := rest.len_le_size
              rw [decide_eq_false (by omega)]; simp
          go_wp2_with fail
          go_ret
          exact HFL.out
        have hb2 := HB'.out.symm
        rw [Bool.and_eq_true, decide_eq_true_eq] at hb2
        have HOS : Hid _ := hb2.1
        have HQ' : Hid (q' = q - sub.size) := HQQ.out rfl
        clear hb2
        go_wp2_with fail
        refine (impl_once a1 c1 h.keys _ R12.out g12 G13.out).mono ?_
        rintro e w3 ⟨rfl, hb3⟩
        have HB3 : Hid _ := hb3
        have HQ3 : Hid (RmAt w3 B q') := HQ2.out.keep hb3
        have HK3 : Hid (KpO B wo w3) := HK2.out.trans (KpO.of hb3 (by have := HQ2.out.lt; omega))
        have RF3 : Hid (OuFrom 0 V.heap.size w3 (some ⟨b, o, none⟩) (i + 1) rest) := OuFrom.keep RF2.out (agree hb3 (by have := HK2.out.below.size; omega))
        clear hb3 x2
        cases hKB : keysB h.keys
        · have HFL : Hid (TakS w B L (d + 1) l (.returned (.bool false)) w3) := by
            refine ⟨q', false, rfl, ?_, hq1', hq2', HQ3.out, fun e => (by cases e), HKW.out.trans HK3.out⟩
            rw [HO.out, HOR.out, hKB]; simp
          go_wp2_with fail
          go_ret
          exact HFL.out
        · have HO2 : Hid (okO (d + 1) l = okO (d + 1) rest) := by rw [Hid, HO.out, HOR.out, hKB, HA.out, HOS.out]; rfl
          have HSZ2 : Hid (q' - ((rest.size : Int) - rest.len) = L - l.size) := by
            have h2 := HSZ.out
            simp only [Ous.size, Ous.len] at h2
            have h4 := HQ'.out
            unfold Hid; omega
          have HK4 : Hid (KpO B V w3) := HK.out.trans HK3.out
          clear hKB
          go_wp2_with fail
          exact ⟨⟨i + 1, q', rest, by first | rfl | go_num, by simp only [Ous.len] at hi; omega, hq1', hq2', HQ3, HK4, RF3, E4, HSZ2, HO2⟩, by simp [intOf]; omega⟩
/-- One value laid as a list of one. -/
theorem one_row {h : Oh} {sub : Ous} {a1 a2 : Option Addr} {c1 c2 : Nat} {w w' : World} {B : Nat} {T : TypeId} (hw : Below w.heap.size w w') (r1 : KeRow 0 w.heap.size w a1 h.keys) (hc : h.keys.length ≤ c1) (r2 : OuRow 0 w.heap.size w a2 sub)
    (hB : w'.heap[B]? = some (.cells #[.int .i64 h.k, .int .i64 h.n, .string h.t, .slice a1 h.keys.length c1, .slice a2 sub.len c2] T (0, 0))) : OuRow 0 w'.heap.size w' (some ⟨B, 0, none⟩) (.cons h sub .nil) := by
  have hr := row_rd hB
  refine .inr ⟨B, 0, rfl, Nat.zero_le _, (Array.getElem?_eq_some_iff.1 hB).1, .inr ⟨⟨?_, ?_, ?_, a1, c1, ?_, hc, KeRow.up r1 hw⟩, ⟨a2, c2, ?_, OuRow.up r2 hw⟩, trivial⟩⟩
  all_goals rw [hr]; rfl
theorem outB_list (h : Oh) (sub : Ous) : outB 20 h sub = (okO 20 (.cons h sub .nil) && decide (((Ous.cons h sub .nil).size : Int) ≤ 4000)) := by
  rw [okO_cons, outB, okO_nil, Bool.and_true]
  congr 1
  have e : (Ous.cons h sub .nil).size = 1 + sub.size := by simp [Ous.size]
  rw [e, decide_eq_decide]; omega
set_option maxHeartbeats 4000000 in
set_option maxRecDepth 20000 in
theorem impl_outOK (h : Oh) (sub : Ous) (a1 a2 : Option Addr) (c1 c2 : Nat) (w : World) (r1 : KeRow 0 w.heap.size w a1 h.keys) (hc : h.keys.length ≤ c1) (r2 : OuRow 0 w.heap.size w a2 sub) (hb : OhBd 1048576 h) (hl : sub.len ≤ 1048576) (hs : OusBd 1048576 sub) :
    Calls Tryz.prog 16 #[.agg #[.int .i64 h.k, .int .i64 h.n, .string h.t, .slice a1 h.keys.length c1, .slice a2 sub.len c2]] w fun e w' => e = .returned (.bool (outB 20 h sub)) ∧ Below w.heap.size w w' := by
  obtain ⟨V, hV⟩ : ∃ V, V = (((w.alloc (.cells #[.int .i64 h.k, .int .i64 h.n, .string h.t, .slice a1 h.keys.length c1, .slice a2 sub.len c2] 26)).alloc (.cells #[.int .i64 4000] 84)).alloc (.cells #[.int .i64 h.k, .int .i64 h.n, .string h.t, .slice a1 h.keys.length c1, .slice a2 sub.len c2] 26)) := ⟨_, rfl⟩
  have hB : Below w.heap.size w V := by
    rw [hV]
    repeat (first | exact Below.refl _ _ | refine Below.alloc ?_ (by first | omega | (simp <;> omega)) _)
  have hL : V.heap[w.heap.size + 1 + 1]? = some (.cells #[.int .i64 h.k, .int .i64 h.n, .string h.t, .slice a1 h.keys.length c1, .slice a2 sub.len c2] 26 (0, 0)) := by
    rw [hV]
    have := heap_alloc_new ((w.alloc (.cells #[.int .i64 h.k, .int .i64 h.n, .string h.t, .slice a1 h.keys.length c1, .slice a2 sub.len c2] 26)).alloc (.cells #[.int .i64 4000] 84)) (.cells #[.int .i64 h.k, .int .i64 h.n, .string h.t, .slice a1 h.keys.length c1, .slice a2 sub.len c2] 26 (0, 0))
    simpa using this
  have hM : RmAt V (w.heap.size + 1) 4000 := by
    rw [hV]
    have h1 := heap_alloc_new (w.alloc (.cells #[.int .i64 h.k, .int .i64 h.n, .string h.t, .slice a1 h.keys.length c1, .slice a2 sub.len c2] 26)) (.cells #[.int .i64 4000] 84 (0, 0))
    refine (Below.heap_alloc _ _ _ (by simp)).trans ?_
    simpa using h1
  have HRL : Hid _ := one_row hB r1 hc r2 hL
  have HBV : Hid _ := hB
  have HM : Hid _ := hM
  have HS : Hid (OusBd 1048576 (.cons h sub .nil)) := ⟨hb, hl, hs, trivial⟩
  clear hB hL hM r1 r2 hb hs
  go_enter Tryz.func16, Tryz.ntmps16
  go_wp2_with fail
  rw [← hV]
  clear hV
  refine (impl_takes 20 (by omega) (.cons h sub .nil) (some ⟨w.heap.size + 1 + 1, 0, none⟩) 1 (w.heap.size + 1) 4000 0 V (by omega) HM.out (by omega) (by omega) HRL.out (by simp [Ous.len]) HS.out).mono ?_
  rintro e w1 ⟨L', b, rfl, hb', _, _, _, _, hk⟩
  have HF : Hid (b = outB 20 h sub) := by rw [outB_list]; exact hb'
  have HQ : Hid (Below w.heap.size w w1) := HBV.out.trans (hk.below.mono (by omega))
  clear hb' hk
  go_wp2_with fail
  go_ret
  exact ⟨ret_bool HF.out, HQ.out⟩
end Go.Proofs.YtoaeggfnlenjkaaGreatDoor.G
namespace Go.Proofs.YtoaeggfnlenjkaaGreatDoor.G
open Go.ChangeShapes Go.WideShapes Go.ChangeAt Go.RowKit
set_option linter.unusedVariables false

theorem ta_int_int (n : Int) (w : World) : (Instr.typeAssert (.iface 3 (.int .i64 n)) 20 3 true).run Tryz.prog w = .ok (.tuple #[.int .i64 n, .bool true]) w := by kernel_rfl
theorem ta_str_int (s : ByteArray) (w : World) : (Instr.typeAssert (.iface 9 (.string s)) 20 3 true).run Tryz.prog w = .ok (.tuple #[.int .i64 0, .bool false]) w := by kernel_rfl
theorem ta_str_str (s : ByteArray) (w : World) : (Instr.typeAssert (.iface 9 (.string s)) 20 9 true).run Tryz.prog w = .ok (.tuple #[.string s, .bool true]) w := by kernel_rfl
theorem ta_lis_int (a : Option Addr) (l c : Nat) (w : World) : (Instr.typeAssert (.iface 24 (.slice a l c)) 20 3 true).run Tryz.prog w = .ok (.tuple #[.int .i64 0, .bool false]) w := by kernel_rfl
theorem ta_lis_str (a : Option Addr) (l c : Nat) (w : World) : (Instr.typeAssert (.iface 24 (.slice a l c)) 20 9 true).run Tryz.prog w = .ok (.tuple #[.string ⟨#[]⟩, .bool false]) w := by kernel_rfl
theorem ta_lis_lis (a : Option Addr) (l c : Nat) (w : World) : (Instr.typeAssert (.iface 24 (.slice a l c)) 20 24 true).run Tryz.prog w = .ok (.tuple #[.slice a l c, .bool true]) w := by kernel_rfl
theorem ta_obj_int (a b : Option Addr) (l c m d : Nat) (w : World) : (Instr.typeAssert (.iface 109 (.agg #[.slice a l c, .slice b m d])) 20 3 true).run Tryz.prog w = .ok (.tuple #[.int .i64 0, .bool false]) w := by kernel_rfl
theorem ta_obj_str (a b : Option Addr) (l c m d : Nat) (w : World) : (Instr.typeAssert (.iface 109 (.agg #[.slice a l c, .slice b m d])) 20 9 true).run Tryz.prog w = .ok (.tuple #[.string ⟨#[]⟩, .bool false]) w := by kernel_rfl
theorem ta_obj_lis (a b : Option Addr) (l c m d : Nat) (w : World) : (Instr.typeAssert (.iface 109 (.agg #[.slice a l c, .slice b m d])) 20 24 true).run Tryz.prog w = .ok (.tuple #[.slice none 0 0, .bool false]) w := by kernel_rfl
theorem ta_obj_obj (a b : Option Addr) (l c m d : Nat) (w : World) : (Instr.typeAssert (.iface 109 (.agg #[.slice a l c, .slice b m d])) 20 109 true).run Tryz.prog w = .ok (.tuple #[.agg #[.slice a l c, .slice b m d], .bool true]) w := by kernel_rfl
theorem ta_nil_int (w : World) : (Instr.typeAssert .nilIface 20 3 true).run Tryz.prog w = .ok (.tuple #[.int .i64 0, .bool false]) w := by kernel_rfl
theorem ta_nil_str (w : World) : (Instr.typeAssert .nilIface 20 9 true).run Tryz.prog w = .ok (.tuple #[.string ⟨#[]⟩, .bool false]) w := by kernel_rfl
theorem ta_nil_lis (w : World) : (Instr.typeAssert .nilIface 20 24 true).run Tryz.prog w = .ok (.tuple #[.slice none 0 0, .bool false]) w := by kernel_rfl
theorem ta_nil_obj (w : World) : (Instr.typeAssert .nilIface 20 109 true).run Tryz.prog w = .ok (.tuple #[.agg #[.slice none 0 0, .slice none 0 0], .bool false]) w := by kernel_rfl
theorem outT_list {h : Oh} {sub : Ous} (k3 : h.k = 3) : outT h sub = lisT (wordsO false [] sub) := by
  have e : ∀ (l : Ous) (ks ks' : List ByteArray), wordsO false ks l = wordsO false ks' l := by
    intro l
    induction l with
    | nil => intro _ _; rfl
    | cons h s r _ ih => intro ks ks'; rw [wordsO, wordsO, ih ks.tail ks'.tail]; rfl
  unfold outT valT lisT endsA endsB
  rw [k3]
  simp only [show ¬ (3 : Int) = 0 by decide, show ¬ (3 : Int) = 1 by decide, show ¬ (3 : Int) = 2 by decide, show ¬ (3 : Int) = 4 by decide, if_false]
  rw [show ((3 : Int) == 4) = false from rfl, e sub h.keys []]
theorem outT_obj {h : Oh} {sub : Ous} (k4 : h.k = 4) : outT h sub = objT (wordsO true h.keys sub) := by
  unfold outT valT objT endsA endsB
  rw [k4]
  simp only [show ¬ (4 : Int) = 0 by decide, show ¬ (4 : Int) = 1 by decide, show ¬ (4 : Int) = 2 by decide, if_false, if_true]
  rfl
theorem head_obj {h : Oh} {sub : Ous} (hh : headB h sub = true) (k4 : h.k = 4) : h.keys.length = sub.len := by
  unfold headB at hh
  rw [k4] at hh
  simp at hh
  exact hh.1.2
set_option maxHeartbeats 8000000 in
set_option maxRecDepth 20000 in
theorem impl_textI : ∀ d : Nat, d ≤ 20 → TextI d := by
  intro d
  induction d with
  | zero => intro _ h sub a1 a2 c1 c2 w _ _ _ ho; rw [outB_zero] at ho; cases ho
  | succ d ih =>
    intro hd h sub a1 a2 c1 c2 w r1 r2 hc ho hp
    obtain ⟨_, hh, hok, hsz⟩ := outB_all ho
    rw [Nat.add_sub_cancel] at hok
    obtain ⟨V, hV⟩ : ∃ V, V = w.alloc (.cells #[.int .i64 h.k, .int .i64 h.n, .string h.t, .slice a1 h.keys.length c1, .slice a2 sub.len c2] 26) := ⟨_, rfl⟩
    have B0 : Below w.heap.size w V := by rw [hV]; exact (Below.refl _ _).alloc (Nat.le_refl _) _
    have c0 : V.heap[w.heap.size]? = some (.cells #[.int .i64 h.k, .int .i64 h.n, .string h.t, .slice a1 h.keys.length c1, .slice a2 sub.len c2] 26 (0, 0)) := by rw [hV]; exact heap_alloc_new _ _
    have x0 := fun o => row_cell c0 o
    have KV : Hid (∀ W, Below V.heap.size V W → KeRow 0 W.heap.size W a1 h.keys ∧ OuRow 0 W.heap.size W a2 sub ∧ Pow W ∧ Below w.heap.size w W) := fun W hW =>
      have hw := B0.trans (hW.mono B0.size)
      ⟨KeRow.up r1 hw, OuRow.up r2 hw, hp.up hw, hw⟩
    have IH : Hid (TextI d) := ih (by omega)
    have HH : Hid (headB h sub = true) := hh
    have HOK : Hid (okO d sub = true) := hok
    have hsz2 : sub.size ≤ 4000 := by omega
    clear r1 r2 ih c0 B0 ho hh hok hp
    go_enter Tryz.func35, Tryz.ntmps35
    go_upto_region 1 with fail
    rw [← hV]
    clear hV
    go_wp2_with fail
    refine (impl_held h sub a1 a2 c1 c2 _).mono ?_
    rintro e w1 ⟨rfl, hb1⟩
    obtain ⟨k1, k2, k3, k4⟩ := KV.out _ hb1
    have HK1 : Hid _ := k1
    have HK2 : Hid _ := k2
    have HK3 : Hid _ := k3
    have HBW : Hid _ := k4
    clear hb1 k1 k2 k3 k4 x0 KV
    by_cases k1 : h.k = 1
    · have HT : Hid (outT h sub = ⟨(Lib.itoa h.n).toArray⟩) := by unfold Hid outT valT; rw [if_neg (by omega), if_pos k1]
      have hn1 : -2147483648 ≤ h.n ∧ h.n ≤ 2147483647 := by
        have := HH.out
        unfold headB at this
        rw [if_neg (by omega), if_pos k1] at this
        simp only [Bool.and_eq_true] at this
        simpa [intO] using this.1.2
      have HV : Hid (heldV h sub a1 a2 c1 c2 = .iface 3 (.int .i64 h.n)) := by unfold Hid heldV; rw [if_pos k1]
      rw [HV.out]
      clear k1 HV
      have t1 := ta_int_int h.n w1
      go_wp2_with fail
      refine (itoa_any h.n _ (by omega) (by omega) HK3.out).mono ?_
      rintro e w2 ⟨rfl, hb2⟩
      have HB2 : Hid (Below w.heap.size w w2) := HBW.out.trans (hb2.mono HBW.out.size)
      clear hb2
      go_wp2_with fail
      go_ret
      exact ⟨by rw [HT.out]; rfl, HB2.out⟩
    by_cases k2 : h.k = 2
    · have HT : Hid (outT h sub = qd h.t) := by unfold Hid outT valT qd; rw [if_neg (by omega), if_neg k1, if_pos k2]
      have hn : h.t.size ≤ 40 := by
        have := HH.out
        unfold headB at this
        rw [if_neg (by omega), if_neg k1, if_pos k2] at this
        simp only [Bool.and_eq_true] at this
        exact name_size this.2
      have HV : Hid (heldV h sub a1 a2 c1 c2 = .iface 9 (.string h.t)) := by unfold Hid heldV; rw [if_neg k1, if_pos k2]
      rw [HV.out]
      clear k1 k2 HV
      have t1 := ta_str_int h.t w1
      have t2 := ta_str_str h.t w1
      go_wp2_with fail
      refine (impl_quoted h.t _ (by omega)).mono ?_
      rintro e w2 ⟨rfl, hw2⟩
      rw [hw2]
      clear hw2
      go_wp2_with fail
      go_ret
      exact ⟨by rw [HT.out]; rfl, HBW.out⟩
    by_cases k3 : h.k = 3
    · have HT : Hid (outT h sub = lisT (wordsO false [] sub)) := outT_list k3
      have HV : Hid (heldV h sub a1 a2 c1 c2 = .iface 24 (.slice a2 sub.len c2)) := by unfold Hid heldV; rw [if_neg k1, if_neg k2, if_pos k3]
      have HZ : Hid (sumW (wordsO false [] sub) ≤ 480000) := by
        have := words_size sub d false [] HOK.out (fun e => by cases e)
        unfold Hid; omega
      have HWL : Hid ((wordsO false [] sub).length = sub.len) := words_len _ _ _
      rw [HV.out]
      clear k1 k2 k3 HV
      have t1 := ta_lis_int a2 sub.len c2 w1
      have t2 := ta_lis_str a2 sub.len c2 w1
      have t3 := ta_lis_lis a2 sub.len c2 w1
      go_wp2_with fail
      refine (impl_texts d IH.out sub a2 c2 _ HK2.out HOK.out hsz2 HK3.out).mono ?_
      rintro e w2 ⟨a', rfl, hr2, hb2⟩
      have HB2 : Hid (Below w.heap.size w w2) := HBW.out.trans (hb2.mono HBW.out.size)
      have HQ := fun (W : World) (hr : KeRow 0 W.heap.size W a' (wordsO false [] sub)) => impl_list a' sub.len (wordsO false [] sub) W hr (by rw [HWL.out]; omega) (by have := HZ.out; omega)
      rw [HWL.out] at HQ
      have HQ2 : Hid _ := HQ
      have HR2 : Hid _ := hr2
      clear hb2 hr2 HQ
      go_wp2_with fail
      refine Calls.mono (HQ2.out _ HR2.out) ?_
      rintro e w3 ⟨rfl, hb3⟩
      have HB3 : Hid (Below w.heap.size w w3) := HB2.out.trans (hb3.mono HB2.out.size)
      clear hb3
      go_wp2_with fail
      go_ret
      exact ⟨by rw [HT.out]; rfl, HB3.out⟩
    by_cases k4 : h.k = 4
    · have HT : Hid (outT h sub = objT (wordsO true h.keys sub)) := outT_obj k4
      have HV : Hid (heldV h sub a1 a2 c1 c2 = .iface 109 (.agg #[.slice a1 h.keys.length c1, .slice a2 sub.len c2])) := by unfold Hid heldV; rw [if_neg k1, if_neg k2, if_neg k3, if_pos k4]
      have HKS : Hid (∀ k ∈ h.keys, k.size ≤ 40) := head_keys HH.out (by simp [k4])
      have HKL : Hid (h.keys.length = sub.len) := head_obj HH.out k4
      have HZ : Hid (sumW (wordsO true h.keys sub) ≤ 480000) := by
        have := words_size sub d true h.keys HOK.out (fun _ => HKS.out)
        unfold Hid; omega
      have HWL : Hid ((wordsO true h.keys sub).length = sub.len) := words_len _ _ _
      rw [HV.out]
      clear k1 k2 k3 k4 HV
      have t1 := ta_obj_int a1 a2 h.keys.length c1 sub.len c2 w1
      have t2 := ta_obj_str a1 a2 h.keys.length c1 sub.len c2 w1
      have t3 := ta_obj_lis a1 a2 h.keys.length c1 sub.len c2 w1
      have t4 := ta_obj_obj a1 a2 h.keys.length c1 sub.len c2 w1
      go_wp2_with fail
      refine (impl_pairs d IH.out sub h.keys a1 a2 c1 c2 _ (KeRow.up HK1.out ?bb) (OuRow.up HK2.out ?bb) HKL.out HKS.out HOK.out hsz2 (Pow.up HK3.out ?bb)).mono ?_
      case bb => exact (Below.refl _ _).alloc (Nat.le_refl _) _
      rintro e w2 ⟨a', rfl, hr2, hb2⟩
      have HB2 : Hid (Below w.heap.size w w2) := HBW.out.trans ((below_one hb2).mono HBW.out.size)
      have HQ := fun (W : World) (hr : KeRow 0 W.heap.size W a' (wordsO true h.keys sub)) => impl_object a' sub.len (wordsO true h.keys sub) W hr (by rw [HWL.out]; omega) (by have := HZ.out; omega)
      rw [HWL.out] at HQ
      have HQ2 : Hid _ := HQ
      have HR2 : Hid _ := hr2
      clear hb2 hr2 HQ
      go_wp2_with fail
      refine Calls.mono (HQ2.out _ HR2.out) ?_
      rintro e w3 ⟨rfl, hb3⟩
      have HB3 : Hid (Below w.heap.size w w3) := HB2.out.trans (hb3.mono HB2.out.size)
      clear hb3
      go_wp2_with fail
      go_ret
      exact ⟨by rw [HT.out]; rfl, HB3.out⟩
    have HT : Hid (outT h sub = ⟨#[110, 117, 108, 108]⟩) := by
      have := HH.out
      unfold headB at this
      unfold Hid outT valT
      by_cases k0 : h.k = 0
      · rw [if_pos k0]
      · rw [if_neg k0, if_neg k1, if_neg k2, if_neg k3, if_neg k4] at this; cases this
    have HV : Hid (heldV h sub a1 a2 c1 c2 = .nilIface) := by unfold Hid heldV; rw [if_neg k1, if_neg k2, if_neg k3, if_neg k4]
    rw [HV.out]
    clear k1 k2 k3 k4 HV
    have t1 := ta_nil_int w1
    have t2 := ta_nil_str w1
    have t3 := ta_nil_lis w1
    have t4 := ta_nil_obj w1
    go_wp2_with fail
    go_ret
    exact ⟨by rw [HT.out]; rfl, HBW.out⟩
/-- What OutText tells. -/
def outE (h : Oh) (sub : Ous) : Ending := if outB 20 h sub = true then .returned (.tuple #[.string (outT h sub), .int .i64 0]) else .returned (.tuple #[.string ⟨#[]⟩, .int .i64 1])
theorem clone_strG (s : ByteArray) (w : World) (hs : s.size ≤ 1048576) :
    Calls Tryz.prog 34 #[.string s] w fun e w' => e = .returned (.string s) ∧ Below w.heap.size w w' := by
  go_enter Tryz.func34, Tryz.ntmps34
  go_wp2_with fail
  refine (Tryz.stringslite_Clone s _ (by omega)).mono ?_
  rintro e w1 ⟨rfl, hb⟩
  go_wp2_with fail
  go_ret
  exact ⟨rfl, hb⟩
set_option maxHeartbeats 2000000 in
theorem spec_outText (h : Oh) (sub : Ous) (a1 a2 : Option Addr) (c1 c2 : Nat) (w : World) (r1 : KeRow 0 w.heap.size w a1 h.keys) (hc : h.keys.length ≤ c1) (r2 : OuRow 0 w.heap.size w a2 sub) (hb : OhBd 1048576 h) (hl : sub.len ≤ 1048576) (hs : OusBd 1048576 sub) :
    Calls Tryz.prog 8 #[.agg #[.int .i64 h.k, .int .i64 h.n, .string h.t, .slice a1 h.keys.length c1, .slice a2 sub.len c2]] w fun e w' => e = outE h sub ∧ Below w.heap.size w w' := by
  obtain ⟨V, hV⟩ : ∃ V, V = w.alloc (.cells #[.int .i64 h.k, .int .i64 h.n, .string h.t, .slice a1 h.keys.length c1, .slice a2 sub.len c2] 26) := ⟨_, rfl⟩
  have B0 : Below w.heap.size w V := by rw [hV]; exact (Below.refl _ _).alloc (Nat.le_refl _) _
  have c0 : V.heap[w.heap.size]? = some (.cells #[.int .i64 h.k, .int .i64 h.n, .string h.t, .slice a1 h.keys.length c1, .slice a2 sub.len c2] 26 (0, 0)) := by rw [hV]; exact heap_alloc_new _ _
  have x0 := fun o => row_cell c0 o
  have zV := (Array.getElem?_eq_some_iff.1 c0).1
  have KV : Hid (∀ W, Below V.heap.size V W → KeRow 0 W.heap.size W a1 h.keys ∧ OuRow 0 W.heap.size W a2 sub ∧ Below w.heap.size w W ∧ W.heap[w.heap.size]? = some (.cells #[.int .i64 h.k, .int .i64 h.n, .string h.t, .slice a1 h.keys.length c1, .slice a2 sub.len c2] 26 (0, 0))) := fun W hW =>
    have hw := B0.trans (hW.mono B0.size)
    ⟨KeRow.up r1 hw, OuRow.up r2 hw, hw, (hW.block _ zV).trans c0⟩
  have HB : Hid _ := hb
  have HS : Hid _ := hs
  clear r1 r2 hb hs c0 B0
  go_enter Tryz.func8, Tryz.ntmps8
  go_upto_region 1 with fail
  rw [← hV]
  clear hV
  go_wp2_with fail
  refine (spec_outOK h sub a1 a2 c1 c2 _ (KV.out _ (Below.refl _ _)).1 hc (KV.out _ (Below.refl _ _)).2.1 HB.out hl HS.out).mono ?_
  rintro e w1 ⟨rfl, hb1⟩
  obtain ⟨q1, q2, q3, q4⟩ := KV.out _ hb1
  have HQ1 : Hid _ := q1
  have HQ2 : Hid _ := q2
  have HQ3 : Hid _ := q3
  have x1 := fun o => row_cell q4 o
  clear hb1 q1 q2 q3 q4 x0
  cases ho : outB 20 h sub
  · have HF : Hid (Ending.returned (.tuple #[.string ⟨#[]⟩, .int .i64 1]) = outE h sub) := by rw [Hid, outE, ho]; rfl
    go_wp2_with fail
    go_ret2
    exact ⟨HF.out, HQ3.out⟩
  have HF : Hid (Ending.returned (.tuple #[.string (outT h sub), .int .i64 0]) = outE h sub) := by rw [Hid, outE, ho]; rfl
  have HO : Hid _ := ho
  clear ho
  go_wp2_with fail
  refine (spec_text 20 (by omega) h sub a1 a2 c1 c2 _ HQ1.out HQ2.out HO.out).mono ?_
  rintro e w2 ⟨rfl, hb2⟩
  have HB2 : Hid (Below w.heap.size w w2) := HQ3.out.trans (hb2.mono HQ3.out.size)
  clear hb2
  go_wp2_with fail
  go_ret2
  exact ⟨HF.out, HB2.out⟩
set_option maxHeartbeats 2000000 in
theorem impl_outText (h : Oh) (sub : Ous) (a1 a2 : Option Addr) (c1 c2 : Nat) (w : World) (r1 : KeRow 0 w.heap.size w a1 h.keys) (hc : h.keys.length ≤ c1) (r2 : OuRow 0 w.heap.size w a2 sub) (hb : OhBd 1048576 h) (hl : sub.len ≤ 1048576) (hs : OusBd 1048576 sub) (hp : Pow w) :
    Calls Tryz.prog 7 #[.agg #[.int .i64 h.k, .int .i64 h.n, .string h.t, .slice a1 h.keys.length c1, .slice a2 sub.len c2]] w fun e w' => e = outE h sub ∧ Below w.heap.size w w' := by
  obtain ⟨V, hV⟩ : ∃ V, V = w.alloc (.cells #[.int .i64 h.k, .int .i64 h.n, .string h.t, .slice a1 h.keys.length c1, .slice a2 sub.len c2] 26) := ⟨_, rfl⟩
  have B0 : Below w.heap.size w V := by rw [hV]; exact (Below.refl _ _).alloc (Nat.le_refl _) _
  have c0 : V.heap[w.heap.size]? = some (.cells #[.int .i64 h.k, .int .i64 h.n, .string h.t, .slice a1 h.keys.length c1, .slice a2 sub.len c2] 26 (0, 0)) := by rw [hV]; exact heap_alloc_new _ _
  have x0 := fun o => row_cell c0 o
  have zV := (Array.getElem?_eq_some_iff.1 c0).1
  have KV : Hid (∀ W, Below V.heap.size V W → KeRow 0 W.heap.size W a1 h.keys ∧ OuRow 0 W.heap.size W a2 sub ∧ Pow W ∧ Below w.heap.size w W ∧ W.heap[w.heap.size]? = some (.cells #[.int .i64 h.k, .int .i64 h.n, .string h.t, .slice a1 h.keys.length c1, .slice a2 sub.len c2] 26 (0, 0))) := fun W hW =>
    have hw := B0.trans (hW.mono B0.size)
    ⟨KeRow.up r1 hw, OuRow.up r2 hw, hp.up hw, hw, (hW.block _ zV).trans c0⟩
  have HB : Hid _ := hb
  have HS : Hid _ := hs
  clear r1 r2 hb hs c0 B0 hp
  go_enter Tryz.func7, Tryz.ntmps7
  go_upto_region 1 with fail
  rw [← hV]
  clear hV
  go_wp2_with fail
  refine (impl_outOK h sub a1 a2 c1 c2 _ (KV.out _ (Below.refl _ _)).1 hc (KV.out _ (Below.refl _ _)).2.1 HB.out hl HS.out).mono ?_
  rintro e w1 ⟨rfl, hb1⟩
  obtain ⟨q1, q2, qp, q3, q4⟩ := KV.out _ hb1
  have HQ1 : Hid _ := q1
  have HQ2 : Hid _ := q2
  have HQP : Hid _ := qp
  have HQ3 : Hid _ := q3
  have x1 := fun o => row_cell q4 o
  clear hb1 q1 q2 q3 q4 qp x0
  cases ho : outB 20 h sub
  · have HF : Hid (Ending.returned (.tuple #[.string ⟨#[]⟩, .int .i64 1]) = outE h sub) := by rw [Hid, outE, ho]; rfl
    go_wp2_with fail
    go_ret2
    exact ⟨HF.out, HQ3.out⟩
  have HF : Hid (Ending.returned (.tuple #[.string (outT h sub), .int .i64 0]) = outE h sub) := by rw [Hid, outE, ho]; rfl
  have HO : Hid _ := ho
  have HTZ : Hid ((outT h sub).size ≤ 480042) := outT_size ho
  clear ho
  go_wp2_with fail
  refine (impl_textI 20 (by omega) h sub a1 a2 c1 c2 _ HQ1.out HQ2.out hc HO.out HQP.out).mono ?_
  rintro e w2 ⟨rfl, hb2⟩
  have HB2 : Hid (Below w.heap.size w w2) := HQ3.out.trans (hb2.mono HQ3.out.size)
  clear hb2 x1
  go_wp2_with fail
  refine (clone_strG _ _ (by have := HTZ.out; omega)).mono ?_
  rintro e w3 ⟨rfl, hb3⟩
  have HB3 : Hid (Below w.heap.size w w3) := HB2.out.trans (hb3.mono HB2.out.size)
  clear hb3
  go_wp2_with fail
  go_ret2
  exact ⟨HF.out, HB3.out⟩
end Go.Proofs.YtoaeggfnlenjkaaGreatDoor.G
