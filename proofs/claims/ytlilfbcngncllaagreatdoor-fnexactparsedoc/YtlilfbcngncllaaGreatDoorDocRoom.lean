/- The program's test of a set: it takes its room. -/
import Derived.Test.YtlilfbcngncllaaGreatDoorParseMathTwo
import Derived.Test.YtlilfbcngncllaaGreatDoorDocImplTwo
import Derived.Test.YtlilfbcngncllaaGreatDoorSelFrom
namespace Go.Proofs.YtlilfbcngncllaaGreatDoor
set_option linter.unusedVariables false

structure Lb (m : Nat) (l : List Tk) : Prop where
  n : l.length ≤ m
  t : ∀ t ∈ l, t.t.size ≤ m
theorem Lb.drop {m : Nat} {l : List Tk} (h : Lb m l) (k : Nat) : Lb m (l.drop k) := ⟨by have := h.n; simp only [List.length_drop]; omega, fun t ht => h.t t (List.mem_of_mem_drop ht)⟩
theorem pVal_bd {m : Nat} {l r : List Tk} {v : Va} (h : pVal l = some (v, r)) (b : Lb m l) : v.t.size ≤ m ∧ Lb m r := by
  cases l with
  | nil => cases h
  | cons t q =>
    have hq : Lb m q := ⟨by have := b.n; simp only [List.length_cons] at this; omega, fun x hx => b.t x (List.mem_cons_of_mem _ hx)⟩
    have ht := b.t t List.mem_cons_self
    unfold pVal at h
    dsimp only at h
    by_cases h1 : t.k = 2
    · rw [if_pos h1] at h; cases h; exact ⟨Nat.zero_le _, hq⟩
    rw [if_neg h1] at h
    by_cases h2 : t.k = 3
    · rw [if_pos h2] at h; cases h; exact ⟨ht, hq⟩
    rw [if_neg h2] at h
    by_cases h3 : t.k = 1
    · rw [if_pos h3] at h
      split at h
      · cases h; exact ⟨Nat.zero_le _, hq⟩
      · split at h
        · cases h; exact ⟨Nat.zero_le _, hq⟩
        · split at h
          · cases h; exact ⟨Nat.zero_le _, hq⟩
          · cases h
    · rw [if_neg h3] at h; cases h
theorem nmAt_bd {m : Nat} {l : List Tk} {nm : ByteArray} (h : nmAt l = some nm) (b : Lb m l) : nm.size ≤ m := by
  cases l with
  | nil => cases h
  | cons t q =>
    unfold nmAt at h
    simp only at h
    split at h
    · cases h; exact b.t t List.mem_cons_self
    · cases h
theorem pArg_bd {m : Nat} {l r : List Tk} {a : Ar} (h : pArg l = some (a, r)) (b : Lb m l) : ArBd m a ∧ Lb m r := by
  unfold pArg at h
  split at h
  · cases h
  · rename_i nm hn
    split at h
    · obtain ⟨x, hx, he⟩ := Option.map_eq_some_iff.1 h
      cases he
      have := pVal_bd (v := x.1) (r := x.2) hx (b.drop 2)
      exact ⟨⟨nmAt_bd hn b, this.1⟩, this.2⟩
    · cases h
theorem pArgsF_bd {m : Nat} : ∀ {f : Nat} {l r : List Tk} {bs : List Ar}, pArgsF f l = some (bs, r) → Lb m l → (∀ x ∈ bs, ArBd m x) ∧ bs.length ≤ l.length ∧ Lb m r
  | 0, _, _, _, h, _ => by cases h
  | f + 1, l, r, bs, h, b => by
    unfold pArgsF at h
    split at h
    · cases h; exact ⟨fun x hx => by simp at hx, Nat.zero_le _, b.drop 1⟩
    · split at h
      · cases h
      · rename_i a q ha
        obtain ⟨x, hx, he⟩ := Option.map_eq_some_iff.1 h
        cases he
        have h1 := pArg_len ha
        have h2 := pArg_bd ha b
        have h3 := pArgsF_bd (bs := x.1) (r := x.2) hx h2.2
        refine ⟨fun y hy => ?_, by simp only [List.length_cons]; have := h3.2.1; omega, h3.2.2⟩
        rcases List.mem_cons.1 hy with rfl | hy
        · exact h2.1
        · exact h3.1 y hy
theorem pDir_bd {m : Nat} {l r : List Tk} {a : Di} (h : pDir l = some (a, r)) (b : Lb m l) : DiBd m a ∧ Lb m r := by
  unfold pDir at h
  split at h
  · cases h
  · split at h
    · split at h
      · split at h
        · cases h
        · rename_i a' q ha
          have h1 := pArg_bd ha (b.drop 2)
          split at h
          · cases h
            exact ⟨h1.1.2, h1.2.drop 1⟩
          · cases h
      · cases h
    · cases h
theorem pDirsF_bd {m : Nat} : ∀ {f : Nat} {l r : List Tk} {bs : List Di}, pDirsF f l = some (bs, r) → Lb m l → (∀ x ∈ bs, DiBd m x) ∧ bs.length ≤ l.length ∧ Lb m r
  | 0, _, _, _, h, _ => by cases h
  | f + 1, l, r, bs, h, b => by
    unfold pDirsF at h
    split at h
    · split at h
      · cases h
      · rename_i a q ha
        obtain ⟨x, hx, he⟩ := Option.map_eq_some_iff.1 h
        cases he
        have h1 := pDir_len ha
        simp only [List.length_drop] at h1
        have h2 := pDir_bd ha (b.drop 1)
        have h3 := pDirsF_bd (bs := x.1) (r := x.2) hx h2.2
        refine ⟨fun y hy => ?_, by simp only [List.length_cons]; have := h3.2.1; omega, h3.2.2⟩
        rcases List.mem_cons.1 hy with rfl | hy
        · exact h2.1
        · exact h3.1 y hy
    · cases h; exact ⟨fun x hx => by simp at hx, Nat.zero_le _, b⟩
theorem pDirs_bd {m : Nat} {l r : List Tk} {bs : List Di} (h : pDirs l = some (bs, r)) (b : Lb m l) : (bs.length ≤ m ∧ ∀ x ∈ bs, DiBd m x) ∧ Lb m r := by
  have := pDirsF_bd h b
  exact ⟨⟨by have := b.n; omega, this.1⟩, this.2.2⟩
theorem pArgsAny_bd {m : Nat} {l r : List Tk} {bs : List Ar} (h : pArgsAny l = some (bs, r)) (b : Lb m l) : (bs.length ≤ m ∧ ∀ x ∈ bs, ArBd m x) ∧ Lb m r := by
  unfold pArgsAny at h
  split at h
  · split at h
    · rename_i a cs q ha
      cases h
      have := pArgsF_bd ha (b.drop 1)
      exact ⟨⟨by have h1 := b.n; have h2 := this.2.1; simp only [List.length_drop] at h2; omega, this.1⟩, this.2.2⟩
    · cases h
  · cases h; exact ⟨⟨Nat.zero_le _, fun x hx => by simp at hx⟩, b⟩
theorem pHead_bd {m : Nat} {l r : List Tk} {h : Hd} {c : Bool} (hh : pHead l = some (h, c, r)) (b : Lb m l) : HdBd m h ∧ Lb m r := by
  have z : (⟨#[]⟩ : ByteArray).size ≤ m := Nat.zero_le _
  have za : ([] : List Ar).length ≤ m := Nat.zero_le _
  have ze : ∀ x ∈ ([] : List Ar), ArBd m x := fun x hx => by simp at hx
  unfold pHead at hh
  split at hh
  · split at hh
    · obtain ⟨x, hx, he⟩ := Option.map_eq_some_iff.1 hh
      cases he
      have h1 := pDirs_bd (bs := x.1) (r := x.2) hx (b.drop 1)
      exact ⟨⟨z, z, za, ze, h1.1.1, h1.1.2⟩, h1.2⟩
    · rename_i nm hn
      split at hh
      · split at hh
        · cases hh
        · rename_i ty ht
          obtain ⟨x, hx, he⟩ := Option.map_eq_some_iff.1 hh
          cases he
          have h1 := pDirs_bd (bs := x.1) (r := x.2) hx (b.drop 3)
          exact ⟨⟨z, nmAt_bd ht (b.drop 2), za, ze, h1.1.1, h1.1.2⟩, h1.2⟩
      · obtain ⟨x, hx, he⟩ := Option.map_eq_some_iff.1 hh
        cases he
        have h1 := pDirs_bd (bs := x.1) (r := x.2) hx (b.drop 2)
        exact ⟨⟨z, nmAt_bd hn (b.drop 1), za, ze, h1.1.1, h1.1.2⟩, h1.2⟩
  · split at hh
    · cases hh
    · rename_i nm hn
      split at hh
      · split at hh
        · cases hh
        · rename_i n2 hn2
          obtain ⟨x, hx, hy⟩ := Option.bind_eq_some_iff.1 hh
          obtain ⟨y, hy2, he⟩ := Option.map_eq_some_iff.1 hy
          cases he
          have h1 := pArgsAny_bd (bs := x.1) (r := x.2) hx (b.drop 3)
          have h2 := pDirs_bd (bs := y.1) (r := y.2) hy2 h1.2
          exact ⟨⟨nmAt_bd hn b, nmAt_bd hn2 (b.drop 2), h1.1.1, h1.1.2, h2.1.1, h2.1.2⟩, h2.2⟩
      · obtain ⟨x, hx, hy⟩ := Option.bind_eq_some_iff.1 hh
        obtain ⟨y, hy2, he⟩ := Option.map_eq_some_iff.1 hy
        cases he
        have h1 := pArgsAny_bd (bs := x.1) (r := x.2) hx (b.drop 1)
        have h2 := pDirs_bd (bs := y.1) (r := y.2) hy2 h1.2
        exact ⟨⟨z, nmAt_bd hn b, h1.1.1, h1.1.2, h2.1.1, h2.1.2⟩, h2.2⟩
end Go.Proofs.YtlilfbcngncllaaGreatDoor
namespace Go.Proofs.YtlilfbcngncllaaGreatDoor
set_option linter.unusedVariables false

theorem pLoop_bd {m : Nat} : ∀ {f d : Nat} {l r : List Tk} {s : Sels}, pLoop f d l = .ok s r → Lb m l → SelsBd m s ∧ s.len ≤ l.length ∧ Lb m r
  | 0, _, _, _, _, h, _ => by cases h
  | f + 1, d, l, r, s, h, b => by
    unfold pLoop at h
    split at h
    · cases h; exact ⟨trivial, Nat.zero_le _, b.drop 1⟩
    · split at h
      · cases h
      · rename_i hd q hh
        have h1 := pHead_len hh
        have h2 := pHead_bd hh b
        split at h
        · rename_i rest r2 hr
          cases h
          have h3 := pLoop_bd hr h2.2
          refine ⟨⟨h2.1, Nat.zero_le _, trivial, h3.1⟩, ?_, h3.2.2⟩
          simp only [Sels.len]
          have := h3.2.1
          omega
        · cases h
        · cases h
      · rename_i hd q hh
        have h1 := pHead_len hh
        have h2 := pHead_bd hh b
        split at h
        · split at h
          · cases h
          · split at h
            · cases h
            · rename_i sub r1 hne hs
              have h4 := pLoop_bd hs (h2.2.drop 1)
              have h5 := pLoop_len hs
              simp only [List.length_drop] at h5
              split at h
              · rename_i rest r2 hr
                cases h
                have h3 := pLoop_bd hr h4.2.2
                refine ⟨⟨h2.1, ?_, h4.1, h3.1⟩, ?_, h3.2.2⟩
                · have := h4.2.1
                  simp only [List.length_drop] at this
                  have := h2.2.n
                  omega
                · simp only [Sels.len]
                  have := h3.2.1
                  omega
              · cases h
              · cases h
            · cases h
            · cases h
        · cases h
theorem pSet_bd {m d : Nat} {l r : List Tk} {s : Sels} (h : pSet d l = .ok s r) (b : Lb m l) : SelsBd m s ∧ s.len ≤ m ∧ Lb m r := by
  unfold pSet at h
  split at h
  · split at h
    · cases h
    · split at h
      · cases h
      · have h1 := pLoop_bd h (b.drop 1)
        refine ⟨h1.1, ?_, h1.2.2⟩
        have := h1.2.1
        have := b.n
        simp only [List.length_drop] at *
        omega
  · cases h
theorem pDefHead_bd {m : Nat} {l r : List Tk} {k : Int} {nm on : ByteArray} (h : pDefHead l = some (k, nm, on, r)) (b : Lb m l) : nm.size ≤ m ∧ on.size ≤ m ∧ Lb m r := by
  have z : (⟨#[]⟩ : ByteArray).size ≤ m := Nat.zero_le _
  unfold pDefHead at h
  split at h
  · cases h; exact ⟨z, z, b⟩
  · split at h
    · cases h
    · split at h
      · split at h
        · cases h; exact ⟨z, z, b.drop 1⟩
        · rename_i hn
          cases h
          exact ⟨nmAt_bd hn (b.drop 1), z, b.drop 2⟩
      · split at h
        · split at h
          · rename_i x o ty h1 h2 h3
            split at h
            · cases h
              exact ⟨nmAt_bd h1 (b.drop 1), nmAt_bd h3 (b.drop 3), b.drop 4⟩
            · cases h
          · cases h
        · cases h
theorem pDef_bd {m : Nat} {l r : List Tk} {x : De} (h : pDef l = .ok x r) (b : Lb m l) : DeBd m x ∧ Lb m r := by
  unfold pDef at h
  split at h
  · cases h
  · rename_i k nm on q hh
    have h1 := pDefHead_bd hh b
    split at h
    · rename_i s r1 hs
      cases h
      have h2 := pSet_bd hs h1.2.2
      exact ⟨⟨h1.1, h1.2.1, h2.2.1, h2.1⟩, h2.2.2⟩
    · cases h
    · cases h
theorem pDefsF_bd {m : Nat} : ∀ {f : Nat} {l r : List Tk} {s : List De}, pDefsF f l = .ok s r → Lb m l → (∀ x ∈ s, DeBd m x) ∧ s.length ≤ l.length
  | 0, _, _, _, h, _ => by cases h
  | f + 1, l, r, s, h, b => by
    unfold pDefsF at h
    split at h
    · rename_i x hd
      have h1 := pDef_bd hd b
      have h2 := pDef_len hd
      cases h
      refine ⟨fun y hy => ?_, by simp only [List.length_cons, List.length_nil]; omega⟩
      rw [List.mem_singleton.1 hy]; exact h1.1
    · rename_i x q _ hd
      have h1 := pDef_bd hd b
      have h2 := pDef_len hd
      split at h
      · rename_i xs r2 hr
        cases h
        have h3 := pDefsF_bd hr h1.2
        refine ⟨fun y hy => ?_, by simp only [List.length_cons]; have := h3.2; omega⟩
        rcases List.mem_cons.1 hy with rfl | hy
        · exact h1.1
        · exact h3.1 y hy
      · cases h
      · cases h
    · cases h
    · cases h
/-- A document that is read is bounded. -/
theorem pDoc_bd {m : Nat} {l r : List Tk} {s : List De} (h : pDoc l = .ok s r) (b : Lb m l) : DefsBd m s := by
  have := pDefsF_bd h b
  exact ⟨by have := this.2; have := b.n; omega, this.1⟩
end Go.Proofs.YtlilfbcngncllaaGreatDoor
namespace Go.Proofs.YtlilfbcngncllaaGreatDoor
open Go.ChangeShapes Go.WideShapes Go.ChangeAt Go.RowKit
set_option linter.unusedVariables false

theorem not_nil {α : Type} {l : List α} (h : ¬ l.length = 0) : l.isEmpty = false := by
  cases l with
  | nil => exact absurd rfl h
  | cons _ _ => rfl
set_option maxHeartbeats 4000000 in
set_option maxRecDepth 40000 in
theorem impl_alone (h : Hd) (n : Nat) (a1 a2 a3 : Option Addr) (c1 c2 c3 : Nat) (w : World) (r1 : ArRow 0 w.heap.size w a1 h.args) (r2 : DiRow 0 w.heap.size w a2 h.dirs) (hb : HdBd 1048576 h) (hn : n ≤ 1048576) :
    Calls Tryz.prog 49 #[.agg #[.int .i64 h.k, .string h.al, .string h.nm, .slice a1 h.args.length c1, .slice a2 h.dirs.length c2, .slice a3 n c3]] w fun e w' =>
      e = .returned (.bool (hdB h (decide (n = 0)))) ∧ Below w.heap.size w w' := by
  obtain ⟨x1, x2, x3, x4, x5, x6⟩ := hb
  have B0 : Below w.heap.size w (w.alloc (.cells #[.int .i64 h.k, .string h.al, .string h.nm, .slice a1 h.args.length c1, .slice a2 h.dirs.length c2, .slice a3 n c3] 84)) := (Below.refl _ _).alloc (Nat.le_refl _) _
  have R1 : Hid (ArRow 0 _ _ a1 h.args) := Row.up r1 B0
  have R2 : Hid (DiRow 0 _ _ a2 h.dirs) := Row.up r2 B0
  have H4 : Hid (∀ x ∈ h.args, ArBd 1048576 x) := x4
  have H6 : Hid (∀ x ∈ h.dirs, DiBd 1048576 x) := x6
  have HB : Hid _ := B0
  have sn : h.nm.size ≤ maxLen := by unfold maxLen; omega
  have sa : h.al.size ≤ maxLen := by unfold maxLen; omega
  clear r1 r2 x4 x6 B0
  go_enter Tryz.func49, Tryz.ntmps49
  go_wp2_with fail
  refine (impl_args a1 c1 h.args _ R1.out x3 H4.out).mono ?_
  cases ba : argsB h.args
  · rintro e w1 ⟨rfl, hb1⟩
    have HN : Hid (false = hdB h (decide (n = 0))) := by simp [Hid, hdB, ba]
    go_wp2_with fail
    go_ret
    exact ⟨ret_bool HN.out, HB.out.trans (hb1.mono (by simp))⟩
  rintro e w1 ⟨rfl, hb1⟩
  have k1 := fun o => hb1.cell (p := ⟨w.heap.size, o, none⟩) (by simp)
  have Q1 : Hid (Below w.heap.size w w1) := HB.out.trans (hb1.mono (by simp))
  have R3 : Hid (DiRow 0 w1.heap.size w1 a2 h.dirs) := Row.up R2.out hb1
  have hz1 : w.heap.size + 1 ≤ w1.heap.size := size_one hb1
  clear hb1
  go_wp2_with fail
  refine (impl_dirs a2 c2 h.dirs _ R3.out x5 H6.out).mono ?_
  cases bd : dirsB h.dirs
  · rintro e w2 ⟨rfl, hb2⟩
    have HN : Hid (false = hdB h (decide (n = 0))) := by simp [Hid, hdB, bd]
    go_wp2_with fail
    go_ret
    exact ⟨ret_bool HN.out, Q1.out.trans (hb2.mono Q1.out.size)⟩
  rintro e w2 ⟨rfl, hb2⟩
  have k2 := fun o => (hb2.cell (p := ⟨w.heap.size, o, none⟩) (by simp <;> omega)).trans (k1 o)
  have Q2 : Hid (Below w.heap.size w w2) := Q1.out.trans (hb2.mono Q1.out.size)
  have hz2 : w.heap.size + 1 ≤ w2.heap.size := by have := hb2.size; omega
  have HT : Hid (hdB h (decide (n = 0)) = kindB h (decide (n = 0))) := by simp [Hid, hdB, ba, bd]
  clear hb2 k1 Q1 R1 R2 R3 H4 H6 HB hz1 ba bd x1 x2
  by_cases h1 : h.k = 1
  · have HK : Hid (kindB h (decide (n = 0)) = (nameB h.nm && (noB h.al || nameB h.al))) := by unfold Hid kindB; rw [if_pos h1]
    go_wp2_with fail
    refine (impl_nameOK h.nm _ sn).mono ?_
    cases bn : nameB h.nm
    · rintro e w3 ⟨rfl, hb3⟩
      have HN : Hid (false = hdB h (decide (n = 0))) := by rw [Hid, HT.out, HK.out, bn]; rfl
      clear HT HK
      go_wp2_with fail
      go_ret
      exact ⟨ret_bool HN.out, Q2.out.trans (hb3.mono Q2.out.size)⟩
    · rintro e w3 ⟨rfl, hb3⟩
      have k3 := fun o => (hb3.cell (p := ⟨w.heap.size, o, none⟩) (by simp <;> omega)).trans (k2 o)
      have Q3 : Hid (Below w.heap.size w w3) := Q2.out.trans (hb3.mono Q2.out.size)
      have HN : Hid ((noB h.al || nameB h.al) = hdB h (decide (n = 0))) := by rw [Hid, HT.out, HK.out, bn]; rfl
      clear HT HK hb3
      go_wp2_with fail
      refine (impl_none h.al _ sa).mono ?_
      rintro e w4 ⟨rfl, hb4⟩
      go_wp2_with fail
      go_ret
      exact ⟨ret_bool HN.out, Q3.out.trans (hb4.mono Q3.out.size)⟩
  have m1 : (h.k == 1) = false := by rw [beq_eq_false_iff_ne]; omega
  by_cases h2 : h.k = 2
  · have HK : Hid (kindB h (decide (n = 0)) = ((!onB h.nm && nameB h.nm) && noB h.al && h.args.isEmpty && decide (n = 0))) := by
      unfold Hid kindB; rw [if_neg h1, if_pos h2]
      cases onB h.nm <;> cases nameB h.nm <;> rfl
    clear m1 h1
    go_wp2_with fail
    refine (impl_frag h.nm _ sn).mono ?_
    cases bn : (!onB h.nm && nameB h.nm)
    · rintro e w3 ⟨rfl, hb3⟩
      have HN : Hid (false = hdB h (decide (n = 0))) := by rw [Hid, HT.out, HK.out, bn]; rfl
      clear HT HK
      go_wp2_with fail
      go_ret
      exact ⟨ret_bool HN.out, Q2.out.trans (hb3.mono Q2.out.size)⟩
    rintro e w3 ⟨rfl, hb3⟩
    have k3 := fun o => (hb3.cell (p := ⟨w.heap.size, o, none⟩) (by simp <;> omega)).trans (k2 o)
    have Q3 : Hid (Below w.heap.size w w3) := Q2.out.trans (hb3.mono Q2.out.size)
    clear hb3
    by_cases hz : h.al.toList = []
    · by_cases ha : h.args.length = 0
      · by_cases hn0 : n = 0
        · have HN : Hid (true = hdB h (decide (n = 0))) := by rw [Hid, HT.out, HK.out, bn, no_of hz, List.length_eq_zero_iff.1 ha, decide_eq_true hn0]; rfl
          clear HT HK
          go_wp2_with fail
          go_ret
          exact ⟨ret_bool HN.out, Q3.out⟩
        · have HN : Hid (false = hdB h (decide (n = 0))) := by rw [Hid, HT.out, HK.out, decide_eq_false hn0]; simp
          have hn1 : ((n : Int) == 0) = false := by rw [beq_eq_false_iff_ne]; omega
          clear HT HK
          go_wp2_with fail
          go_ret
          exact ⟨ret_bool HN.out, Q3.out⟩
      · have HN : Hid (false = hdB h (decide (n = 0))) := by rw [Hid, HT.out, HK.out, not_nil ha]; simp
        clear HT HK
        go_wp2_with fail
        go_ret
        exact ⟨ret_bool HN.out, Q3.out⟩
    · have HN : Hid (false = hdB h (decide (n = 0))) := by rw [Hid, HT.out, HK.out, no_not hz]; simp
      clear HT HK
      go_wp2_with fail
      go_ret
      exact ⟨ret_bool HN.out, Q3.out⟩
  have m2 : (h.k == 2) = false := by rw [beq_eq_false_iff_ne]; omega
  by_cases h3 : h.k = 3
  · have HK : Hid (kindB h (decide (n = 0)) = ((noB h.nm || nameB h.nm) && noB h.al && h.args.isEmpty && !decide (n = 0))) := by unfold Hid kindB; rw [if_neg h1, if_neg h2, if_pos h3]
    clear m1 h1 m2 h2
    go_wp2_with fail
    refine (impl_none h.nm _ sn).mono ?_
    cases bn : (noB h.nm || nameB h.nm)
    · rintro e w3 ⟨rfl, hb3⟩
      have HN : Hid (false = hdB h (decide (n = 0))) := by rw [Hid, HT.out, HK.out, bn]; rfl
      clear HT HK
      go_wp2_with fail
      go_ret
      exact ⟨ret_bool HN.out, Q2.out.trans (hb3.mono Q2.out.size)⟩
    rintro e w3 ⟨rfl, hb3⟩
    have k3 := fun o => (hb3.cell (p := ⟨w.heap.size, o, none⟩) (by simp <;> omega)).trans (k2 o)
    have Q3 : Hid (Below w.heap.size w w3) := Q2.out.trans (hb3.mono Q2.out.size)
    clear hb3
    by_cases hz : h.al.toList = []
    · by_cases ha : h.args.length = 0
      · have HN : Hid ((!decide (n = 0)) = hdB h (decide (n = 0))) := by rw [Hid, HT.out, HK.out, bn, no_of hz, List.length_eq_zero_iff.1 ha]; simp
        clear HT HK
        go_wp2_with fail
        go_ret
        exact ⟨ret_bool (by rw [← HN.out, Bool.eq_iff_iff]; simp; omega), Q3.out⟩
      · have HN : Hid (false = hdB h (decide (n = 0))) := by rw [Hid, HT.out, HK.out, not_nil ha]; simp
        clear HT HK
        go_wp2_with fail
        go_ret
        exact ⟨ret_bool HN.out, Q3.out⟩
    · have HN : Hid (false = hdB h (decide (n = 0))) := by rw [Hid, HT.out, HK.out, no_not hz]; simp
      clear HT HK
      go_wp2_with fail
      go_ret
      exact ⟨ret_bool HN.out, Q3.out⟩
  have m3 : (h.k == 3) = false := by rw [beq_eq_false_iff_ne]; omega
  have HN : Hid (false = hdB h (decide (n = 0))) := by rw [Hid, HT.out]; unfold kindB; rw [if_neg h1, if_neg h2, if_neg h3]
  clear h1 h2 h3 HT
  go_wp2_with fail
  go_ret
  exact ⟨ret_bool HN.out, Q2.out⟩
end Go.Proofs.YtlilfbcngncllaaGreatDoor
namespace Go.Proofs.YtlilfbcngncllaaGreatDoor
open Go.ChangeShapes Go.WideShapes Go.ChangeAt Go.RowKit
set_option linter.unusedVariables false

theorem row_rd {w : World} {N : Nat} {e : TypeId} {cs : Array Value} (h : w.heap[N]? = some (.cells cs e (0, 0))) : rdOf w N = fun j => cs[j]? := by
  funext j; exact row_cell h j
theorem Agree.setCell {lo hi : Nat} {w : World} {p : Addr} {v : Value} (h : p.block < lo) : Agree lo hi w (w.setCell p v) := fun g h1 _ => Below.heap_setCell _ _ _ _ (by omega)
theorem Agree.trans {lo hi : Nat} {w w1 w2 : World} (h : Agree lo hi w w1) (h' : Agree lo hi w1 w2) : Agree lo hi w w2 := fun g h1 h2 => (h' g h1 h2).trans (h g h1 h2)

/-- The first k of a row are laid. -/
def LaidR {α : Type} (at_ : (Nat → Option Value) → Nat → α → Prop) (z : Nat) (cs : Array Value) (l : List α) (k : Nat) : Prop := ∀ i x, i < k → l[i]? = some x → at_ (fun j => cs[j]?) (i * z) x
def put4 (cs : Array Value) (k : Nat) (v0 v1 v2 v3 : Value) : Array Value := (((cs.setIfInBounds k v0).setIfInBounds (k + 1) v1).setIfInBounds (k + 2) v2).setIfInBounds (k + 3) v3
theorem put4_size (cs : Array Value) (k : Nat) (v0 v1 v2 v3 : Value) : (put4 cs k v0 v1 v2 v3).size = cs.size := by simp [put4]
theorem put4_at {cs : Array Value} {k : Nat} {v0 v1 v2 v3 : Value} (h : k + 3 < cs.size) : (put4 cs k v0 v1 v2 v3)[k]? = some v0 ∧ (put4 cs k v0 v1 v2 v3)[k + 1]? = some v1 ∧ (put4 cs k v0 v1 v2 v3)[k + 2]? = some v2 ∧ (put4 cs k v0 v1 v2 v3)[k + 3]? = some v3 := by
  unfold put4
  refine ⟨?_, ?_, ?_, ?_⟩ <;> simp [Array.getElem?_setIfInBounds] <;> omega
theorem put4_else {cs : Array Value} {k : Nat} {v0 v1 v2 v3 : Value} {j : Nat} (h : j < k) : (put4 cs k v0 v1 v2 v3)[j]? = cs[j]? := by
  unfold put4
  rw [Array.getElem?_setIfInBounds_ne (by omega), Array.getElem?_setIfInBounds_ne (by omega), Array.getElem?_setIfInBounds_ne (by omega), Array.getElem?_setIfInBounds_ne (by omega)]
theorem LaidR.put_ar {cs : Array Value} {l : List Ar} {k : Nat} (h : LaidR ArAt 4 cs l k) (hk : k < l.length) (hs : cs.size = l.length * 4) : LaidR ArAt 4 (put4 cs (k * 4) (.string l[k].nm) (.int .i64 l[k].v.k) (.int .i64 l[k].v.n) (.string l[k].v.t)) l (k + 1) := by
  intro i x hi hx
  by_cases hik : i = k
  · subst hik
    rw [List.getElem?_eq_getElem hk] at hx
    simp only [Option.some.injEq] at hx
    subst hx
    exact put4_at (by omega)
  · obtain ⟨c0, c1, c2, c3⟩ := h i x (by omega) hx
    exact ⟨(put4_else (by omega)).trans c0, (put4_else (by omega)).trans c1, (put4_else (by omega)).trans c2, (put4_else (by omega)).trans c3⟩
theorem LaidR.put_di {cs : Array Value} {l : List Di} {k : Nat} (h : LaidR DiAt 4 cs l k) (hk : k < l.length) (hs : cs.size = l.length * 4) : LaidR DiAt 4 (put4 cs (k * 4) (.bool l[k].sk) (.int .i64 l[k].v.k) (.int .i64 l[k].v.n) (.string l[k].v.t)) l (k + 1) := by
  intro i x hi hx
  by_cases hik : i = k
  · subst hik
    rw [List.getElem?_eq_getElem hk] at hx
    simp only [Option.some.injEq] at hx
    subst hx
    exact put4_at (by omega)
  · obtain ⟨c0, c1, c2, c3⟩ := h i x (by omega) hx
    exact ⟨(put4_else (by omega)).trans c0, (put4_else (by omega)).trans c1, (put4_else (by omega)).trans c2, (put4_else (by omega)).trans c3⟩
theorem LaidR.row {α : Type} {at_ : (Nat → Option Value) → Nat → α → Prop} {z : Nat} {w : World} {N lo : Nat} {e : TypeId} {cs : Array Value} {l : List α} (h : w.heap[N]? = some (.cells cs e (0, 0))) (hl : LaidR at_ z cs l l.length) (hlo : lo ≤ N) : Row at_ z lo w.heap.size w (some ⟨N, 0, none⟩) l := by
  refine .inr ⟨N, 0, rfl, hlo, (Array.getElem?_eq_some_iff.1 h).1, fun i x hx => ?_⟩
  have hi : i < l.length := (List.getElem?_eq_some_iff.1 hx).1
  rw [row_rd h, Nat.zero_add]
  exact hl i x hi hx

set_option maxRecDepth 100000 in
theorem info_ar : ∃ i, Tryz.prog.info? 103 = some i ∧ i.zero = some (.agg #[.string ⟨#[]⟩, .int .i64 0, .int .i64 0, .string ⟨#[]⟩]) ∧ i.size = 4 ∧ i.bytes = 48 := by
  refine ⟨_, rfl, ?_, ?_, ?_⟩ <;> kernel_rfl
set_option maxRecDepth 100000 in
theorem info_di : ∃ i, Tryz.prog.info? 105 = some i ∧ i.zero = some (.agg #[.bool false, .int .i64 0, .int .i64 0, .string ⟨#[]⟩]) ∧ i.size = 4 ∧ i.bytes = 40 := by
  refine ⟨_, rfl, ?_, ?_, ?_⟩ <;> kernel_rfl
end Go.Proofs.YtlilfbcngncllaaGreatDoor
namespace Go.Proofs.YtlilfbcngncllaaGreatDoor
open Go.ChangeShapes Go.WideShapes Go.ChangeAt Go.RowKit
set_option linter.unusedVariables false

def takesB (d : Nat) (left : Int) (l : Sels) : Bool := !l.isNil && okS d l && decide ((l.size : Int) ≤ left)
def Room (w : World) (R : Nat) (left : Int) : Prop := w.heap[R]? = some (.cells #[.int .i64 left] 58 (0, 0))
def ImplSels (l : Sels) : Prop := ∀ (R : Nat) (a : Option Addr) (c d : Nat) (deep left : Int) (w : World), Room w R left → SelRow 0 R w a l → l.len ≤ 1048576 → SelsBd 1048576 l → deep + d = 8 → 1 ≤ deep → 0 ≤ left → left ≤ 60 →
    Calls Tryz.prog 26 #[.pointer (some ⟨R, 0, none⟩), .slice a l.len c, .int .i64 deep] w fun e w' =>
      e = .returned (.bool (takesB d left l)) ∧ Below R w w' ∧ (takesB d left l = true → Room w' R (left - l.size))
theorem Room.lt {w : World} {R : Nat} {m : Int} (h : Room w R m) : R < w.heap.size := (Array.getElem?_eq_some_iff.1 h).1
theorem Room.keep {w w' : World} {R B : Nat} {m : Int} (h : Room w R m) (hb : Below B w w') (hB : R < B) : Room w' R m := (hb.block R hB).trans h
theorem Room.cell {w : World} {R : Nat} {m : Int} (h : Room w R m) : w.cell? ⟨R, 0, none⟩ = some (.int .i64 m) := row_cell h 0
theorem Room.frozen {w : World} {R : Nat} {m : Int} (h : Room w R m) : w.frozen? ⟨R, 0, none⟩ = false := row_frozen h 0
theorem Room.set {w : World} {R : Nat} {m : Int} (h : Room w R m) (n : Int) : Room (w.setCell ⟨R, 0, none⟩ (.int .i64 n)) R n := row_set h 0 _
/-- What is left while a set is gone through. -/
def Left (d : Nat) (left : Int) (l rest : Sels) (m : Int) : Prop := okS d l = okS d rest ∧ m + l.size + rest.len = left + rest.size
theorem Left.no_hd {d : Nat} {left m : Int} {l : Sels} {h : Hd} {sub rest : Sels} (t : Left d left l (.cons h sub rest) m) (hh : hdB h sub.isNil = false) : takesB d left l = false := by
  unfold takesB; rw [t.1, ok_part2, hh]; simp
where ok_part2 {d : Nat} {h : Hd} {sub rest : Sels} : okS d (.cons h sub rest) = (decide (0 < d) && hdB h sub.isNil && okS (d - 1) sub && okS d rest) := rfl
theorem ok_part3 {d : Nat} {h : Hd} {sub rest : Sels} : okS d (.cons h sub rest) = (decide (0 < d) && hdB h sub.isNil && okS (d - 1) sub && okS d rest) := rfl
theorem Left.no_sub {d : Nat} {left m : Int} {l : Sels} {h : Hd} {sub rest : Sels} (t : Left d left l (.cons h sub rest) m) (hn : sub.isNil = false) (hh : takesB (d - 1) m sub = false) : takesB d left l = false := by
  unfold takesB at *
  rw [hn] at hh
  simp only [Bool.not_false, Bool.true_and, Bool.and_eq_false_iff] at hh
  rcases hh with hh | hh
  · rw [t.1, ok_part3, hh]; simp
  · have h3 := t.2
    simp only [Sels.size, Sels.len] at h3
    have h4 := Sels.len_le_size rest
    simp only [decide_eq_false_iff_not] at hh
    have : ¬ (l.size : Int) ≤ left := by omega
    simp [this]
theorem Left.next {d : Nat} {left m : Int} {l : Sels} {h : Hd} {sub rest : Sels} (t : Left d left l (.cons h sub rest) m) (hd : 0 < d) (hh : hdB h sub.isNil = true) (hs : okS (d - 1) sub = true) : Left d left l rest (m - sub.size) := by
  refine ⟨by rw [t.1, ok_part3, hh, hs]; simp [hd], ?_⟩
  have h3 := t.2
  simp only [Sels.size, Sels.len] at h3
  omega
theorem Left.done {d : Nat} {left m : Int} {l : Sels} (t : Left d left l .nil m) (hm : 0 ≤ m) (hn : l.isNil = false) : takesB d left l = true ∧ m = left - l.size := by
  have h3 := t.2
  simp only [Sels.size, Sels.len] at h3
  have : (l.size : Int) ≤ left := by omega
  refine ⟨?_, by omega⟩
  unfold takesB; rw [t.1, hn]; simp [okS, this]
theorem ok_nil (d : Nat) : okS d .nil = true := by cases d <;> rfl

set_option maxHeartbeats 4000000 in
set_option maxRecDepth 40000 in
theorem impl_takes (l : Sels) : ImplSels l := by
  induction hN : l.size using Nat.strongRecOn generalizing l with
  | _ N ih =>
  subst hN
  intro R a c d deep left w hroom hr hl hbd hdd hd1 hleft hl60
  have IH : Hid (∀ sub : Sels, sub.size < l.size → ImplSels sub) := fun sub hsub => ih sub.size hsub sub rfl
  have HR : Hid (SelFrom 0 R w a 0 l) := hr.from_
  have HB : Hid (SelsBd 1048576 l) := hbd
  have HO : Hid (Room w R left) := hroom
  have hRl := hroom.lt
  have hc0 := hroom.cell
  have hf0 := hroom.frozen
  have hls := Sels.len_le_size l
  clear hr ih hbd hroom
  by_cases h0 : l.len = 0
  · have HN : Hid (takesB d left l = false) := by unfold Hid takesB; rw [Sels.isNil_len, h0]; rfl
    clear HB IH HR
    go_enter Tryz.func26, Tryz.ntmps26
    go_wp2_with fail
    go_ret
    exact ⟨ret_bool HN.out.symm, Below.refl _ _, fun h => by rw [HN.out] at h; cases h⟩
  have HI : Hid (l.isNil = false) := by rw [Hid, Sels.isNil_len]; simpa using h0
  have hb0 : ((l.len : Int) == 0) = false := by rw [beq_eq_false_iff_ne]; omega
  by_cases hd0 : d = 0
  · have HN : Hid (takesB d left l = false) := by
      cases l with
      | nil => exact absurd rfl h0
      | cons h sub rest => unfold Hid takesB; rw [ok_part3, hd0]; simp
    have hdp : 7 < deep := by omega
    clear HB IH HR
    go_enter Tryz.func26, Tryz.ntmps26
    go_wp2_with fail
    go_ret
    exact ⟨ret_bool HN.out.symm, Below.refl _ _, fun h => by rw [HN.out] at h; cases h⟩
  have hdp : ¬ 7 < deep := by omega
  have hd' : 0 < d := by omega
  by_cases hlt : left < (l.len : Int)
  · have HN : Hid (takesB d left l = false) := by
      have : ¬ (l.size : Int) ≤ left := by omega
      unfold Hid takesB; simp [this]
    clear HB IH HR
    go_enter Tryz.func26, Tryz.ntmps26
    go_wp2_with fail
    go_ret
    exact ⟨ret_bool HN.out.symm, Below.refl _ _, fun h => by rw [HN.out] at h; cases h⟩
  have HS : Hid (Room (w.setCell ⟨R, 0, none⟩ (.int .i64 (left - l.len))) R (left - l.len)) := HO.out.set _
  go_enter Tryz.func26, Tryz.ntmps26
  go_wp2_with fail
  clear h0 hb0 hc0 hf0
  go_loopw [36] (fun i w' => ∃ (k : Nat) (m : Int) (rest : Sels), Hid (l.len = k + rest.len) ∧ i = .int .i64 k ∧ 0 ≤ m ∧ m ≤ 60 ∧ Below R w w' ∧ Hid (Room w' R m) ∧ Hid (rest.size ≤ l.size) ∧ Hid (SelsBd 1048576 rest) ∧ Hid (SelFrom 0 R w a k rest) ∧ Hid (Left d left l rest m)) (fun i _ => l.len - (intOf i).toNat)
  case atStart => exact ⟨0, left - l.len, l, by simp [Hid], rfl, by omega, by omega, (Below.refl R w).setCell (p := ⟨R, 0, none⟩) (Nat.le_refl R) _, HS, Nat.le_refl _, HB, HR, ⟨rfl, by omega⟩⟩
  case round =>
    rename_i wr
    obtain ⟨k, m, rest, HK, rfl, hm0, hm60, hb, HO2, HZ, HD, HF, HT⟩ := hrel
    cases rest with
    | nil =>
      have hk' : ¬ k < l.len := by rw [HK.out]; simp only [Sels.len]; omega
      have HN := HT.out.done hm0 HI.out
      have HN : Hid (takesB d left l = true ∧ m = left - l.size) := HN
      go_wp2_with fail
      go_ret
      exact ⟨ret_bool HN.out.1.symm, hb, fun _ => HN.out.2 ▸ HO2.out⟩
    | cons h sub rest =>
      have hlt : k < l.len := by rw [HK.out]; simp only [Sels.len]; omega
      have HK2 : Hid (l.len = k + 1 + rest.len) := by rw [Hid, HK.out]; simp only [Sels.len]; omega
      obtain ⟨b, o, a1, c1, a2, c2, a3, c3, ha, _, hbl, d0, d1, d2, d3, d4, d5, r1, r2, r3, _⟩ := (HF.out.keep (Below.agree hb (Nat.le_refl _))).step
      have HF2 : Hid (SelFrom 0 R w a (k + 1) rest) := SelFrom.next HF.out
      subst ha
      have hRr := HO2.out.lt
      have K1 : Hid (∀ W0, Below (R + 1) wr W0 → ArRow 0 W0.heap.size W0 a1 h.args) := fun W0 hB => (Row.keep r1 (Below.agree hB (by omega))).wide (Nat.le_refl _) (by have := hB.size; omega)
      have K2 : Hid (∀ W0, Below (R + 1) wr W0 → DiRow 0 W0.heap.size W0 a2 h.dirs) := fun W0 hB => (Row.keep r2 (Below.agree hB (by omega))).wide (Nat.le_refl _) (by have := hB.size; omega)
      have K3 : Hid (∀ W0, Below (R + 1) wr W0 → SelRow 0 R W0 a3 sub) := fun W0 hB => SelRow.keep r3 (Below.agree hB (by omega))
      have HD' := HD.out
      obtain ⟨e1, e2, e3, e4⟩ := HD'
      have E1 : Hid (HdBd 1048576 h) := e1
      have E3 : Hid (SelsBd 1048576 sub) := e3
      have E4 : Hid (SelsBd 1048576 rest) := e4
      have HZ2 : Hid (rest.size ≤ l.size) := by have := HZ.out; simp only [Sels.size] at this; unfold Hid; omega
      have IS : Hid (ImplSels sub) := IH.out sub (by have := HZ.out; simp only [Sels.size] at this; omega)
      clear r1 r2 r3 e1 e3 e4
      go_wp2_with fail
      refine Calls.mono (impl_alone h sub.len a1 a2 a3 c1 c2 c3 _ (K1.out _ ?b0) (K2.out _ ?b1) E1.out e2) ?_
      case b0 => repeat (first | exact Below.refl _ _ | refine Below.setCell ?_ (by first | omega | (simp <;> omega)) _ | refine Below.alloc ?_ (by first | omega | (simp <;> omega)) _)
      case b1 => repeat (first | exact Below.refl _ _ | refine Below.setCell ?_ (by first | omega | (simp <;> omega)) _ | refine Below.alloc ?_ (by first | omega | (simp <;> omega)) _)
      rw [← Sels.isNil_len]
      cases hh : hdB h sub.isNil
      · rintro e w1 ⟨rfl, hb1⟩
        have HN : Hid (takesB d left l = false) := HT.out.no_hd hh
        have q1 : Hid (Below R w w1) := by
          refine hb.trans (Below.trans ?_ (hb1.mono (by first | omega | (simp <;> omega))))
          repeat (first | exact Below.refl _ _ | refine Below.setCell ?_ (by first | omega | (simp <;> omega)) _ | refine Below.alloc ?_ (by first | omega | (simp <;> omega)) _)
        go_wp2_with fail
        go_ret
        exact ⟨ret_bool HN.out.symm, q1.out, fun h => by rw [HN.out] at h; cases h⟩
      · rintro e w1 ⟨rfl, hb1⟩
        have hz1 : wr.heap.size + 1 ≤ w1.heap.size := by have := hb1.size; simpa using this
        have p1 : Below (R + 1) wr w1 := by
          refine Below.trans ?_ (hb1.mono (by first | omega | (simp <;> omega)))
          repeat (first | exact Below.refl _ _ | refine Below.setCell ?_ (by first | omega | (simp <;> omega)) _ | refine Below.alloc ?_ (by first | omega | (simp <;> omega)) _)
        have P1 : Hid _ := p1
        have HO3 : Hid (Room w1 R m) := HO2.out.keep p1 (by omega)
        have k0 := fun o => hb1.cell (p := ⟨wr.heap.size, o, none⟩) (by first | omega | (simp <;> omega))
        have Q1 : Hid (Below R w w1) := hb.trans (p1.mono (by omega))
        clear hb1 p1
        by_cases hs : sub.len = 0
        · have hnil : sub = .nil := by
            cases sub with
            | nil => rfl
            | cons _ _ _ => simp [Sels.len] at hs
          have HN : Hid (Left d left l rest m) := by
            have := HT.out.next hd' hh (by rw [hnil]; exact ok_nil _)
            rw [hnil] at this
            have h2 : Left d left l rest m := by simpa [Sels.size] using this
            exact h2
          clear hnil
          go_wp2_with fail
          go_roundw
          case rel => exact ⟨k + 1, m, rest, HK2, by go_num, hm0, hm60, Q1.out, HO3, HZ2, E4, HF2, HN⟩
          case measure => simp [intOf]; omega
        · have HSN : Hid (sub.isNil = false) := by rw [Hid, Sels.isNil_len]; simpa using hs
          have hsp : 0 < sub.len := by omega
          clear hs
          go_wp2_with fail
          refine (IS.out R a3 c3 (d - 1) (deep + 1) m _ HO3.out (K3.out _ P1.out) e2 E3.out (by omega) (by omega) hm0 hm60).mono ?_
          cases ht : takesB (d - 1) m sub
          · rintro e w2 ⟨rfl, hb2, _⟩
            have HN : Hid (takesB d left l = false) := HT.out.no_sub HSN.out ht
            go_wp2_with fail
            go_ret
            exact ⟨ret_bool HN.out.symm, Q1.out.trans hb2, fun h => by rw [HN.out] at h; cases h⟩
          · rintro e w2 ⟨rfl, hb2, hr2⟩
            have ht' := ht
            simp only [takesB, Bool.and_eq_true, decide_eq_true_eq] at ht'
            have HR2 : Hid (Room w2 R (m - sub.size)) := hr2 rfl
            have HN : Hid (Left d left l rest (m - sub.size)) := HT.out.next hd' hh ht'.1.2
            have hle := ht'.2
            clear hr2 ht'
            go_wp2_with fail
            go_roundw
            case rel => exact ⟨k + 1, m - sub.size, rest, HK2, by go_num, by omega, by omega, Q1.out.trans hb2, HR2, HZ2, E4, HF2, HN⟩
            case measure => simp [intOf]; omega
end Go.Proofs.YtlilfbcngncllaaGreatDoor
