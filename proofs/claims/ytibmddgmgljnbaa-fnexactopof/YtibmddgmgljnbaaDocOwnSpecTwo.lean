/- The specification's own copy of selections and of a definition: the walk. -/
import Derived.Test.YtibmddgmgljnbaaDocOwnSpec
namespace Go.Proofs.Ytibmddgmgljnbaa
open Go.ChangeShapes Go.WideShapes Go.ChangeAt Go.RowKit
set_option linter.unusedVariables false

def OwnSels (l : Sels) : Prop := ∀ (a : Option Addr) (c : Nat) (w : World), SelRow 0 w.heap.size w a l → l.len ≤ 1048576 → SelsBd 1048576 l →
    Calls Try.prog 34 #[.slice a l.len c] w fun e w' => ∃ a' c', e = .returned (.slice a' l.len c') ∧ SelRow w.heap.size w'.heap.size w' a' l ∧ Below w.heap.size w w'

theorem arV_len (l : List Ar) : (l.flatMap arV).length = l.length * 4 := fm_len (f := arV) (z := 4) (fun _ => rfl) l
theorem diV_len (l : List Di) : (l.flatMap diV).length = l.length * 4 := fm_len (f := diV) (z := 4) (fun _ => rfl) l
theorem owns_same {w w' : World} {base : Nat} {e : TypeId} {size : Nat} {v : Value} {n : Nat} {xs : List Value} (h : w.ownsRow base e size v n xs) (hs : ∀ g, v.ownBlock = some g → w'.heap[g]? = w.heap[g]?) : w'.ownsRow base e size v n xs := by
  refine ⟨h.1, ?_⟩
  rcases h.2 with h0 | ⟨g, cap, cur, rfl, q1, q2, q3⟩
  · exact .inl h0
  · exact .inr ⟨g, cap, cur, rfl, q1, (hs g rfl).trans q2, q3⟩
theorem six_one {k : Int} {al nm : ByteArray} {b1 b2 b3 : Option Addr} {n1 n2 n3 f1 f2 f3 : Nat} : ∀ u ∈ ([.int .i64 k, .string al, .string nm, .slice b1 n1 f1, .slice b2 n2 f2, .slice b3 n3 f3] : List Value), u.oneCell' = true := by
  intro u hu
  simp only [List.mem_cons, List.not_mem_nil, or_false] at hu
  rcases hu with rfl | rfl | rfl | rfl | rfl | rfl <;> rfl
theorem cell_six_new (w : World) (x0 x1 x2 x3 x4 x5 : Value) (t : TypeId) : ∀ j u, [x0, x1, x2, x3, x4, x5][j]? = some u → (w.alloc (.cells #[x0, x1, x2, x3, x4, x5] t)).cell? ((⟨w.heap.size, 0, none⟩ : Addr).add j) = some u := by
  intro j u hj
  rw [add_plain, Nat.zero_add, row_cell (heap_alloc_new _ _) j, ← hj]
  simp
set_option maxHeartbeats 4000000 in
set_option maxRecDepth 40000 in
theorem own_sels (l : Sels) : OwnSels l := by
  induction hN : l.size using Nat.strongRecOn generalizing l with
  | _ N ih =>
  subst hN
  intro a c w hr hl hbd
  have IH : Hid (∀ sub : Sels, sub.size < l.size → OwnSels sub) := fun sub hsub => ih sub.size hsub sub rfl
  have HR : Hid (SelFrom 0 w.heap.size w a 0 l) := hr.from_
  have HB : Hid (SelsBd 1048576 l) := hbd
  clear hr ih hbd
  obtain ⟨i27, hi27, hz27, hs27, hy27⟩ := info_sel
  obtain ⟨i28, hi28, hz28, hs28, hy28⟩ := info_ar
  obtain ⟨i29, hi29, hz29, hs29, hy29⟩ := info_di
  go_enter Try.func34, Try.ntmps34
  go_wp2_with fail
  go_loopw [3, 4] (fun s i w' => ∃ (k : Nat) (vs : List Value) (pre : List (Hd × Sels)) (rest : Sels), Hid (l.len = k + rest.len) ∧ i = .int .i64 k ∧ Below w.heap.size w w' ∧ Hid (l = app pre rest ∧ pre.length = k) ∧ Hid (rest.size ≤ l.size) ∧ Hid (SelsBd 1048576 rest) ∧ Hid (SelFrom 0 w.heap.size w a k rest) ∧ Hid (w'.ownsRow w.heap.size 73 6 s k vs) ∧ Hid (Kids w.heap.size s.ownBlock w' pre vs)) (fun _ i _ => l.len - (intOf i).toNat)
  case atStart => exact ⟨0, [], [], l, by simp [Hid], rfl, (Below.refl _ _).alloc (Nat.le_refl _) _, ⟨rfl, rfl⟩, Nat.le_refl _, HB, HR, World.ownsRow_made w #[] 0 (Nat.le_refl _) (Nat.zero_le _) (by simp), fun W' hW => trivial⟩
  case round =>
    obtain ⟨k, vs, pre, rest, HK, rfl, hb, HP, HZ, HD, HF, HO, HKI⟩ := hrel
    cases rest with
    | nil =>
      have hk' : ¬ k < l.len := by rw [HK.out]; simp only [Sels.len]; omega
      have hkl : l.len = k := by rw [HK.out]; rfl
      obtain ⟨a9, c9, rfl, R9⟩ := Kids.row HO.out HP.out.2 (Nat.le_refl _) HKI.out
      rw [← HP.out.1] at R9
      have R9' : Hid _ := R9
      clear R9 HO HKI
      go_wp2_with fail
      go_ret
      exact ⟨a9, c9, by first | rfl | (rw [hkl]; rfl), R9'.out, hb⟩
    | cons h sub rest =>
      have hlt : k < l.len := by rw [HK.out]; simp only [Sels.len]; omega
      have HK2 : Hid (l.len = k + 1 + rest.len) := by rw [Hid, HK.out]; simp only [Sels.len]; omega
      obtain ⟨b, o, a1, c1, a2, c2, a3, c3, ha, _, hbl, d0, d1, d2, d3, d4, d5, r1, r2, r3, _⟩ := (HF.out.keep (Below.agree hb (Nat.le_refl _))).step
      have HF2 : Hid (SelFrom 0 w.heap.size w a (k + 1) rest) := SelFrom.next HF.out
      subst ha
      have K1 : Hid (∀ W0, Below wr.heap.size wr W0 → ArRow 0 W0.heap.size W0 a1 h.args) := fun W0 hB => Row.up (Row.wide r1 (Nat.le_refl _) hb.size) hB
      have K2 : Hid (∀ W0, Below wr.heap.size wr W0 → DiRow 0 W0.heap.size W0 a2 h.dirs) := fun W0 hB => Row.up (Row.wide r2 (Nat.le_refl _) hb.size) hB
      have K3 : Hid (∀ W0, Below wr.heap.size wr W0 → SelRow 0 W0.heap.size W0 a3 sub) := fun W0 hB => SelRow.up (SelRow.wide r3 (Nat.le_refl _) hb.size) hB
      obtain ⟨⟨x1, x2, x3, x4, x5, x6⟩, e2, e3, e4⟩ := HD.out
      have E3 : Hid (SelsBd 1048576 sub) := e3
      have E4 : Hid (SelsBd 1048576 rest) := e4
      have HZ2 : Hid (rest.size ≤ l.size) := by have := HZ.out; simp only [Sels.size] at this; unfold Hid; omega
      have IS : Hid (OwnSels sub) := IH.out sub (by have := HZ.out; simp only [Sels.size] at this; omega)
      have hbz := hb.size
      have HG : Hid (∀ g, u3.ownBlock = some g → w.heap.size ≤ g ∧ g < wr.heap.size) := World.ownsRow.lt HO.out
      clear r1 r2 r3 e3 e4 x4 x6
      have HGA : Hid (((wr.alloc (.cells #[.int .i64 h.k, .string h.al, .string h.nm, .slice a1 h.args.length c1, .slice a2 h.dirs.length c2, .slice a3 sub.len c3] 73)).alloc (.cells #[] 92)).heap[wr.heap.size + 1]? = some (.cells #[] 92 (0, 0))) := by
        have := heap_alloc_new (wr.alloc (.cells #[.int .i64 h.k, .string h.al, .string h.nm, .slice a1 h.args.length c1, .slice a2 h.dirs.length c2, .slice a3 sub.len c3] 73)) (.cells #[] 92)
        unfold Hid
        simpa using this
      have HSA := arV_src (K1.out ((wr.alloc (.cells #[.int .i64 h.k, .string h.al, .string h.nm, .slice a1 h.args.length c1, .slice a2 h.dirs.length c2, .slice a3 sub.len c3] 73)).alloc (.cells #[] 92)) (((Below.refl _ _).alloc (Nat.le_refl _) _).alloc (by simp) _))
      have HSA : Hid _ := HSA
      go_wp2_with (first | (at_builtin; revert hl) | fail)
      intro hl
      refine wpList_append_copy rfl _ _ 70 rfl 92 i28 _ 4 48 Try.underlying70 hi28 hz28 hs28 hy28 rfl (by decide) (wr.heap.size + 1) rfl HGA.out a1 h.args.length c1 (h.args.flatMap arV) rfl (arV_len _) HSA.out (arV_one _) (by unfold maxLen; omega) (by omega) ?_
      intro b1 f1 w1 C1 hb1
      have z1 : wr.heap.size + 2 ≤ w1.heap.size := by have := hb1.size; simp at this; omega
      have A1 : Hid (ArRow (wr.heap.size + 1) w1.heap.size w1 b1 h.args) := Copied.ar C1.out
      have P1 : Hid (Below wr.heap.size wr w1) := (((Below.refl _ _).alloc (Nat.le_refl _) _).alloc (by simp) _).trans (hb1.mono (by omega))
      have k1 := fun o => hb1.cell (p := ⟨wr.heap.size, o, none⟩) (by simp)
      have j1 := fun o => hb1.frozen (p := ⟨wr.heap.size, o, none⟩) (by simp)
      have HGB : Hid (((w1.setCell ⟨wr.heap.size, 3, none⟩ (.slice b1 h.args.length f1)).alloc (.cells #[] 94)).heap[w1.heap.size]? = some (.cells #[] 94 (0, 0))) := by
        have := heap_alloc_new (w1.setCell ⟨wr.heap.size, 3, none⟩ (.slice b1 h.args.length f1)) (.cells #[] 94)
        unfold Hid
        simpa using this
      have HSB := diV_src (K2.out ((w1.setCell ⟨wr.heap.size, 3, none⟩ (.slice b1 h.args.length f1)).alloc (.cells #[] 94)) ((P1.out.setCell (Nat.le_refl _) _).alloc (by simp; omega) _))
      have HSB : Hid _ := HSB
      have kB := fun o => ((Below.refl (w1.setCell ⟨wr.heap.size, 3, none⟩ (.slice b1 h.args.length f1)).heap.size (w1.setCell ⟨wr.heap.size, 3, none⟩ (.slice b1 h.args.length f1))).alloc (Nat.le_refl _) (.cells #[] 94)).cell (p := ⟨wr.heap.size, o, none⟩) (by simp; omega)
      have jB := fun o => ((Below.refl (w1.setCell ⟨wr.heap.size, 3, none⟩ (.slice b1 h.args.length f1)).heap.size (w1.setCell ⟨wr.heap.size, 3, none⟩ (.slice b1 h.args.length f1))).alloc (Nat.le_refl _) (.cells #[] 94)).frozen (p := ⟨wr.heap.size, o, none⟩) (by simp; omega)
      clear hb1 d0 d1 d2 d3 d4 d5 C1 HGA HSA
      go_wp2_with (first | (at_builtin; revert hl) | fail)
      intro hl
      refine wpList_append_copy rfl _ _ 71 rfl 94 i29 _ 4 40 Try.underlying71 hi29 hz29 hs29 hy29 rfl (by decide) w1.heap.size (by simp [go_sem]) HGB.out a2 h.dirs.length c2 (h.dirs.flatMap diV) rfl (diV_len _) HSB.out (diV_one _) (by unfold maxLen; omega) (by omega) ?_
      intro b2 f2 w2 C2 hb2
      have z2 : w1.heap.size + 1 ≤ w2.heap.size := by have := hb2.size; simpa using this
      have A2 : Hid (DiRow w1.heap.size w2.heap.size w2 b2 h.dirs) := Copied.di C2.out
      have A1 : Hid (ArRow (wr.heap.size + 1) w1.heap.size w2 b1 h.args) := Row.keep A1.out fun g h1 h2 => ((hb2.block g h2).trans (Below.heap_alloc _ _ _ (by simpa using h2))).trans (heap_set _ _ _ _ _ (by omega))
      have P2 : Hid (Below wr.heap.size wr w2) := ((P1.out.setCell (Nat.le_refl _) _).alloc (by simp; omega) _).trans (hb2.mono (by omega))
      have k2 := fun o => hb2.cell (p := ⟨wr.heap.size, o, none⟩) (by simp; omega)
      have j2 := fun o => hb2.frozen (p := ⟨wr.heap.size, o, none⟩) (by simp; omega)
      clear hb2 C2 HGB HSB
      go_wp2_with fail
      refine (IS.out a3 c3 _ (K3.out _ ?b0) e2 E3.out).mono ?_
      case b0 => exact P2.out.setCell (Nat.le_refl _) _
      rintro e w3 ⟨b3, f3, rfl, A3, hb3⟩
      have z3 : w2.heap.size ≤ w3.heap.size := by have := hb3.size; simpa using this
      have A3 : Hid (SelRow w2.heap.size w3.heap.size w3 b3 sub) := SelRow.wide A3 (by simp) (Nat.le_refl _)
      have A1 : Hid (ArRow (wr.heap.size + 1) w1.heap.size w3 b1 h.args) := Row.keep A1.out fun g h1 h2 => (hb3.block g (by simp; omega)).trans (heap_set _ _ _ _ _ (by omega))
      have A2 : Hid (DiRow w1.heap.size w2.heap.size w3 b2 h.dirs) := Row.keep A2.out fun g h1 h2 => (hb3.block g (by simp; omega)).trans (heap_set _ _ _ _ _ (by omega))
      have P3 : Hid (Below wr.heap.size wr w3) := (P2.out.setCell (Nat.le_refl _) _).trans (hb3.mono (by simp; omega))
      have k3 := fun o => hb3.cell (p := ⟨wr.heap.size, o, none⟩) (by simp; omega)
      have j3 := fun o => hb3.frozen (p := ⟨wr.heap.size, o, none⟩) (by simp; omega)
      have PC : Hid (Below wr.heap.size wr ((w3.setCell ⟨wr.heap.size, 5, none⟩ (.slice b3 sub.len f3)).alloc (.cells #[.int .i64 h.k, .string h.al, .string h.nm, .slice b1 h.args.length f1, .slice b2 h.dirs.length f2, .slice b3 sub.len f3] 73))) := (P3.out.setCell (Nat.le_refl _) _).alloc (by simp; omega) _
      have HOC : Hid (((w3.setCell ⟨wr.heap.size, 5, none⟩ (.slice b3 sub.len f3)).alloc (.cells #[.int .i64 h.k, .string h.al, .string h.nm, .slice b1 h.args.length f1, .slice b2 h.dirs.length f2, .slice b3 sub.len f3] 73)).ownsRow w.heap.size 73 6 u3 k vs) := owns_same HO.out fun g hg => PC.out.block g (HG.out g hg).2
      have HNW := cell_six_new (w3.setCell ⟨wr.heap.size, 5, none⟩ (.slice b3 sub.len f3)) (.int .i64 h.k) (.string h.al) (.string h.nm) (.slice b1 h.args.length f1) (.slice b2 h.dirs.length f2) (.slice b3 sub.len f3) 73
      rw [show (w3.setCell ⟨wr.heap.size, 5, none⟩ (.slice b3 sub.len f3)).heap.size = w3.heap.size by simp] at HNW
      have HNW : Hid _ := HNW
      have ZC : ((w3.setCell ⟨wr.heap.size, 5, none⟩ (.slice b3 sub.len f3)).alloc (.cells #[.int .i64 h.k, .string h.al, .string h.nm, .slice b1 h.args.length f1, .slice b2 h.dirs.length f2, .slice b3 sub.len f3] 73)).heap.size = w3.heap.size + 1 := by simp
      have AC : Hid (∀ g, g ≠ wr.heap.size → g < w3.heap.size → ((w3.setCell ⟨wr.heap.size, 5, none⟩ (.slice b3 sub.len f3)).alloc (.cells #[.int .i64 h.k, .string h.al, .string h.nm, .slice b1 h.args.length f1, .slice b2 h.dirs.length f2, .slice b3 sub.len f3] 73)).heap[g]? = w3.heap[g]?) := fun g h1 h2 => (Below.heap_alloc _ _ _ (by simpa using h2)).trans (heap_set _ _ _ _ _ h1)
      have KC : Hid (Kids w.heap.size u3.ownBlock ((w3.setCell ⟨wr.heap.size, 5, none⟩ (.slice b3 sub.len f3)).alloc (.cells #[.int .i64 h.k, .string h.al, .string h.nm, .slice b1 h.args.length f1, .slice b2 h.dirs.length f2, .slice b3 sub.len f3] 73)) (pre ++ [(h, sub)]) (vs ++ [.int .i64 h.k, .string h.al, .string h.nm, .slice b1 h.args.length f1, .slice b2 h.dirs.length f2, .slice b3 sub.len f3])) := by
        refine Kids.more (m := wr.heap.size + 1) (Kids.step HKI.out ⟨PC.out.size, fun g hg _ => PC.out.block g hg⟩) (by rw [HO.out.1, HP.out.2]) (by omega) (fun g hg => by have := HG.out g hg; omega) ?_ ?_ ?_
        · rw [ZC]; exact Row.wide (Row.keep A1.out fun g h1 h2 => AC.out g (by omega) (by omega)) (Nat.le_refl _) (by omega)
        · rw [ZC]; exact Row.wide (Row.keep A2.out fun g h1 h2 => AC.out g (by omega) (by omega)) (by omega) (by omega)
        · rw [ZC]; exact SelRow.wide (SelRow.keep A3.out fun g h1 h2 => AC.out g (by omega) (by omega)) (by omega) (by omega)
      have QC : Hid (Below w.heap.size w ((w3.setCell ⟨wr.heap.size, 5, none⟩ (.slice b3 sub.len f3)).alloc (.cells #[.int .i64 h.k, .string h.al, .string h.nm, .slice b1 h.args.length f1, .slice b2 h.dirs.length f2, .slice b3 sub.len f3] 73))) := hb.trans (PC.out.mono hbz)
      clear hb3
      go_wp2_with (first | (at_builtin; revert hl) | fail)
      intro hl
      refine wpList_append_lies _ rfl _ _ 26 rfl w.heap.size 73 i27 _ 6 112 Try.underlying26 hi27 hz27 hs27 hy27 rfl (by decide) u3 k vs rfl HOC.out ⟨w3.heap.size, 0, none⟩ 1 1 [.int .i64 h.k, .string h.al, .string h.nm, .slice b1 h.args.length f1, .slice b2 h.dirs.length f2, .slice b3 sub.len f3] (by simp [go_sem]) rfl HNW.out six_one (by decide) (by unfold maxLen; omega) (by omega) (by rw [ZC]; omega) (w3.heap.size + 1) ZC ?_
      intro g cap w4 hown4 hgrow hat hlt4
      have QD : Hid (Below w.heap.size w w4) := QC.out.grown hgrow (by rw [ZC]; omega) (fun k hk => (HG.out k hk).1)
      have KD : Hid (Kids w.heap.size (some g) w4 (pre ++ [(h, sub)]) (vs ++ [.int .i64 h.k, .string h.al, .string h.nm, .slice b1 h.args.length f1, .slice b2 h.dirs.length f2, .slice b3 sub.len f3])) := Kids.appended KC.out hgrow (by rw [ZC]; rcases hat with h | h; exact .inl h.symm; exact .inr (by rw [h]))
      have OD : Hid _ := hown4
      clear hown4 hgrow hat k1 k2 k3 j1 j2 j3 kB jB
      go_wp2_with fail
      exact ⟨⟨k + 1, _, pre ++ [(h, sub)], rest, HK2, by go_num, QD.out, ⟨by rw [app_snoc]; exact HP.out.1, by simp [HP.out.2]⟩, HZ2, E4, HF2, OD, KD⟩, by simp [intOf]; omega⟩

set_option maxHeartbeats 4000000 in
set_option maxRecDepth 40000 in
theorem own_def (x : De) (a3 : Option Addr) (c3 : Nat) (w : World) (r3 : SelRow 0 w.heap.size w a3 x.sels) (hb : DeBd 1048576 x) :
    Calls Try.prog 19 #[.agg #[.int .i64 x.k, .string x.nm, .string x.on, .slice a3 x.sels.len c3]] w fun e w' =>
      ∃ b3 d3, e = .returned (.agg #[.int .i64 x.k, .string x.nm, .string x.on, .slice b3 x.sels.len d3]) ∧ SelRow w.heap.size w'.heap.size w' b3 x.sels ∧ Below w.heap.size w w' := by
  obtain ⟨x1, x2, x3, x4⟩ := hb
  have K3 : Hid (∀ W0, Below w.heap.size w W0 → SelRow 0 W0.heap.size W0 a3 x.sels) := fun W0 hB => SelRow.up r3 hB
  have HS : Hid (SelsBd 1048576 x.sels) := x4
  clear r3 x4
  go_enter Try.func19, Try.ntmps19
  go_wp2_with fail
  refine (own_sels x.sels a3 c3 _ (K3.out _ ?b0) x3 HS.out).mono ?_
  case b0 => repeat (first | exact Below.refl _ _ | refine Below.setCell ?_ (by first | omega | (simp <;> omega)) _ | refine Below.alloc ?_ (by first | omega | (simp <;> omega)) _)
  rintro e w3 ⟨b3, d3, rfl, A3, hb3⟩
  have z3 : w.heap.size + 2 ≤ w3.heap.size := by have := hb3.size; simp at this; omega
  have A3 : Hid (SelRow (w.heap.size + 2) w3.heap.size w3 b3 x.sels) := SelRow.wide A3 (by first | omega | (simp <;> omega)) (Nat.le_refl _)
  have Q3 : Hid (Below w.heap.size w w3) := by
    refine Below.trans ?_ (hb3.mono (by first | omega | (simp <;> omega)))
    repeat (first | exact Below.refl _ _ | refine Below.setCell ?_ (by first | omega | (simp <;> omega)) _ | refine Below.alloc ?_ (by first | omega | (simp <;> omega)) _)
  have k30 := fun o => hb3.cell (p := ⟨w.heap.size, o, none⟩) (by first | omega | (simp <;> omega))
  have k31 := fun o => hb3.cell (p := ⟨w.heap.size + 1, o, none⟩) (by first | omega | (simp <;> omega))
  have j30 := fun o => hb3.frozen (p := ⟨w.heap.size, o, none⟩) (by first | omega | (simp <;> omega))
  have j31 := fun o => hb3.frozen (p := ⟨w.heap.size + 1, o, none⟩) (by first | omega | (simp <;> omega))
  clear hb3
  go_wp2_with fail
  refine bodyPost_ret (v := .agg #[.int .i64 x.k, .string x.nm, .string x.on, .slice b3 x.sels.len d3]) (by simp [results, Try.results19, go_sem, k31]) rfl ⟨b3, d3, rfl, ?_⟩
  have G : ∀ W' : World, W'.heap.size = w3.heap.size → Agree (w.heap.size + 2) w3.heap.size w3 W' → Below w.heap.size w W' → SelRow w.heap.size W'.heap.size W' b3 x.sels ∧ Below w.heap.size w W' :=
    fun W' hw ha hB => ⟨SelRow.wide (SelRow.keep A3.out ha) (by omega) (by omega), hB⟩
  refine G _ (by simp) ?_ ?_
  · intro g h1 h2
    repeat rw [heap_set _ _ _ _ _ (by omega)]
  · repeat (refine Below.setCell ?_ (by first | omega | (simp <;> omega)) _)
    exact Q3.out
end Go.Proofs.Ytibmddgmgljnbaa
