/- The program's going through all selections with a function. -/
import Derived.Test.YtdamienfcfojiaaDocUse
import Derived.Test.YtdamienfcfojiaaDocOKs
import Derived.Laws.EntriesVeiled
namespace Go.Proofs.Ytdamienfcfojiaa
open Go.ChangeShapes Go.WideShapes Go.ChangeAt Go.RowKit
set_option linter.unusedVariables false

/-- The variable that holds the function behind the list's own. -/
def UseAt (Bn : Nat) (w : World) : Prop := w.heap[Bn + 1]? = some (.cells #[.func (.func 19) #[] #[.pointer (some ⟨Bn, 0, none⟩)]] 49 (0, 0))
/-- What a call goes by: the blocks up to the function's variable are kept. -/
structure Ctx (Pr : Nat → Prop) (Bn : Nat) (w : World) : Prop where
  lt : ∀ g, Pr g → g < w.heap.size
  low : ∀ g, g ≤ Bn + 1 → Pr g
  use : UseAt Bn w
theorem Ctx.keep {Pr : Nat → Prop} {Bn : Nat} {w w' : World} (h : Ctx Pr Bn w) (k : KeptP Pr Bn w w') : Ctx Pr Bn w' :=
  ⟨fun g hg => Nat.lt_of_lt_of_le (h.lt g hg) k.size, h.low, (k.block _ (h.low _ (Nat.le_refl _)) (by omega)).trans h.use⟩
theorem Ctx.ext {Pr : Nat → Prop} {Bn : Nat} {w w' : World} (h : Ctx Pr Bn w) (hb : Below w.heap.size w w') (hz : w.heap.size < w'.heap.size) : Ctx (fun g => Pr g ∨ g = w.heap.size) Bn w' :=
  ⟨fun g hg => by rcases hg with hg | rfl; exact Nat.lt_of_lt_of_le (h.lt g hg) hb.size; exact hz, fun g hg => .inl (h.low g hg), (hb.block _ (h.lt _ (h.low _ (Nat.le_refl _)))).trans h.use⟩
theorem Ctx.below {Pr : Nat → Prop} {Bn : Nat} {w w' : World} (h : Ctx Pr Bn w) (k : KeptP Pr Bn w w') : Below Bn w w' := k.below (fun g hg => h.low g (by omega)) (Nat.le_refl _)

set_option maxHeartbeats 4000000 in
set_option maxRecDepth 40000 in
theorem look_any (Pr : Nat → Prop) (h : Hd) (sub : Sels) (a1 a2 a3 : Option Addr) (c1 c2 c3 Bn : Nat) (ns : List ByteArray) (w : World) (hN : Names Pr Bn w ns) (hC : Ctx Pr Bn w) (r1 : ArRow 0 Bn w a1 h.args) (r2 : DiRow 0 Bn w a2 h.dirs)
    (hb : HdBd 1048576 h) (hn : ns.length + h.args.length + h.dirs.length ≤ 2097152) :
    Calls Try.prog 23 #[.agg #[.int .i64 h.k, .string h.al, .string h.nm, .slice a1 h.args.length c1, .slice a2 h.dirs.length c2, .slice a3 sub.len c3], .pointer (some ⟨Bn + 1, 0, none⟩)] w fun e w' =>
      e = .returned (.tuple #[]) ∧ Names Pr Bn w' (addAll ns (varsH h)) ∧ KeptP Pr Bn w w' := by
  obtain ⟨x1, x2, x3, x4, x5, x6⟩ := hb
  have HN : Hid (Names Pr Bn w ns) := hN
  have HC : Hid (Ctx Pr Bn w) := hC
  have hz : Bn + 1 < w.heap.size := hC.lt _ (hC.low _ (Nat.le_refl _))
  have R1 : Hid (ArRow 0 Bn w a1 h.args) := r1
  have R2 : Hid (DiRow 0 Bn w a2 h.dirs) := r2
  have X4 : Hid (∀ x ∈ h.args, ArBd 1048576 x) := x4
  have X6 : Hid (∀ x ∈ h.dirs, DiBd 1048576 x) := x6
  clear hN hC r1 r2 x4 x6
  go_enter Try.func23, Try.ntmps23
  go_wp2_with fail
  obtain ⟨W, hW⟩ : ∃ W, W = w.alloc (.cells #[.int .i64 h.k, .string h.al, .string h.nm, .slice a1 h.args.length c1, .slice a2 h.dirs.length c2, .slice a3 sub.len c3] 54) := ⟨_, rfl⟩
  rw [← hW]
  have zW : W.heap.size = w.heap.size + 1 := by rw [hW]; simp
  have B0 : Hid (Below w.heap.size w W) := by rw [hW]; exact (Below.refl _ _).alloc (Nat.le_refl _) _
  have HDW : Hid (W.cell? ⟨w.heap.size, 4, none⟩ = some (.slice a2 h.dirs.length c2)) := by rw [hW]; exact row_cell (heap_alloc_new _ _) 4
  have CW : Hid (Ctx (fun g => Pr g ∨ g = w.heap.size) Bn W) := HC.out.ext B0.out (by omega)
  have NW : Hid (Names (fun g => Pr g ∨ g = w.heap.size) Bn W ns) := Names.keep (Names.ext HN.out (Nat.le_refl _)) B0.out
  have KW : Hid (KeptP Pr Bn w W) := KeptP.of B0.out HC.out.lt
  have R1W : Hid (ArRow 0 Bn W a1 h.args) := R1.out.keep (Below.agree B0.out (by omega))
  have R2W : Hid (DiRow 0 Bn W a2 h.dirs) := R2.out.keep (Below.agree B0.out (by omega))
  clear hW B0 R1 R2 HN
  go_loopw [10] (fun i w' => ∃ (k : Nat), k ≤ h.args.length ∧ i = .int .i64 k ∧ Hid (KeptP (fun g => Pr g ∨ g = w.heap.size) Bn W w') ∧ Hid (Names (fun g => Pr g ∨ g = w.heap.size) Bn w' (addAll ns (varsA (h.args.take k))))) (fun i _ => h.args.length - (intOf i).toNat)
  case atStart => exact ⟨0, by omega, rfl, KeptP.refl _ _ _, NW⟩
  case round =>
    obtain ⟨k, hk, rfl, HK, HNr⟩ := hrel
    have Cr : Hid (Ctx (fun g => Pr g ∨ g = w.heap.size) Bn wr) := CW.out.keep HK.out
    have hzr := HK.out.size
    by_cases hlt : k < h.args.length
    case neg =>
      have NA : Hid (Names (fun g => Pr g ∨ g = w.heap.size) Bn wr (addAll ns (varsA h.args))) := by have := HNr.out; rwa [List.take_of_length_le (by omega)] at this
      have hd4 : wr.cell? ⟨w.heap.size, 4, none⟩ = some (.slice a2 h.dirs.length c2) := by
        have e := HK.out.block w.heap.size (.inr rfl) (by omega)
        have := HDW.out
        simp only [World.cell?, e] at this ⊢
        exact this
      have hla := addAll_len (varsA h.args) ns
      have hva := varsA_len h.args
      have HLA : Hid ((addAll ns (varsA h.args)).length ≤ ns.length + h.args.length) := by unfold Hid; omega
      have HV : Hid (addAll ns (varsH h) = addAll (addAll ns (varsA h.args)) (varsD h.dirs)) := addAll_append _ _ _
      generalize addAll ns (varsA h.args) = ms at *
      clear HNr hla hva NW R1W X4
      go_wp2_with fail
      obtain ⟨V, rfl⟩ : ∃ x, x = wr := ⟨_, rfl⟩
      go_loopw [22] (fun i w' => ∃ (k : Nat), k ≤ h.dirs.length ∧ i = .int .i64 k ∧ Hid (KeptP (fun g => Pr g ∨ g = w.heap.size) Bn V w') ∧ Hid (Names (fun g => Pr g ∨ g = w.heap.size) Bn w' (addAll ms (varsD (h.dirs.take k))))) (fun i _ => h.dirs.length - (intOf i).toNat)
      case atStart => exact ⟨0, by omega, rfl, KeptP.refl _ _ _, NA⟩
      case round =>
        obtain ⟨j, hj, rfl, HK2, HNr⟩ := hrel
        have Cr2 : Hid (Ctx (fun g => Pr g ∨ g = w.heap.size) Bn wr) := Cr.out.keep HK2.out
        have hzr2 := HK2.out.size
        by_cases hjt : j < h.dirs.length
        case neg =>
          have NB : Hid (Names Pr Bn wr (addAll ns (varsH h))) := by
            have := HNr.out
            rw [List.take_of_length_le (by omega)] at this
            rw [HV.out]; exact Names.less this (fun g hg => .inl hg)
          have KB : Hid (KeptP Pr Bn w wr) := KW.out.trans ((HK.out.trans HK2.out).less (fun g hg => .inl hg))
          clear HNr HK2
          go_wp2_with fail
          go_end0
          exact ⟨rfl, NB.out, KB.out⟩
        obtain ⟨b, o, ha, _, hbl, d0, d1, d2, d3⟩ := (R2W.out.keep (Below.agree (CW.out.below (HK.out.trans HK2.out)) (Nat.le_refl _))).cells_di j hjt
        subst ha
        have u0 := row_cell Cr2.out.use 0
        have hsz : h.dirs[j].v.t.size ≤ 1048576 := X6.out _ (List.getElem_mem hjt)
        have uA := fun ob => (((Below.refl wr.heap.size wr).alloc (Nat.le_refl _) ob).cell (p := ⟨Bn + 1, 0, none⟩) (show Bn + 1 < wr.heap.size by omega)).trans u0
        have hlb := addAll_len (varsD (h.dirs.take j)) ms
        have hvb := varsD_len (h.dirs.take j)
        have hla := HLA.out
        rw [List.length_take] at hvb
        have HLB : Hid ((addAll ms (varsD (h.dirs.take j))).length ≤ 2097152) := by unfold Hid; omega
        have HV2 : Hid (addAll ms (varsD (h.dirs.take (j + 1))) = addAll (addAll ms (varsD (h.dirs.take j))) (vaVar h.dirs[j].v)) := by rw [Hid, varsD_take hjt, addAll_append]
        generalize addAll ms (varsD (h.dirs.take j)) = ps at *
        clear hlb hvb hla
        go_wp2_with fail
        refine (use_any (fun g => Pr g ∨ g = w.heap.size) h.dirs[j].v Bn ps _ (Names.keep HNr.out ?b0) ?b1 (.inl (HC.out.low _ (by omega))) hsz HLB.out).mono ?_
        case b0 => exact (Below.refl _ _).alloc (Nat.le_refl _) _
        case b1 => exact fun g hg => by have := Cr2.out.lt g hg; simp; omega
        rintro e w1 ⟨rfl, hN1, hK1⟩
        have N1 : Hid (Names (fun g => Pr g ∨ g = w.heap.size) Bn w1 (addAll ps (vaVar h.dirs[j].v))) := hN1
        have K1 : Hid (KeptP (fun g => Pr g ∨ g = w.heap.size) Bn V w1) := HK2.out.trans ((KeptP.of ((Below.refl _ _).alloc (Nat.le_refl _) _) Cr2.out.lt).trans hK1)
        clear hN1 hK1 uA u0 d0 d1 d2 d3
        go_wp2_with fail
        exact ⟨⟨j + 1, by omega, by go_num, K1, by rw [HV2.out]; exact N1.out⟩, by simp [intOf]; omega⟩
    obtain ⟨b, o, ha, _, hbl, d0, d1, d2, d3⟩ := (R1W.out.keep (Below.agree (CW.out.below HK.out) (Nat.le_refl _))).cells_ar k hlt
    subst ha
    have u0 := row_cell Cr.out.use 0
    have hsz : h.args[k].v.t.size ≤ 1048576 := (X4.out _ (List.getElem_mem hlt)).2
    have uA := fun ob => (((Below.refl wr.heap.size wr).alloc (Nat.le_refl _) ob).cell (p := ⟨Bn + 1, 0, none⟩) (show Bn + 1 < wr.heap.size by omega)).trans u0
    have hlb := addAll_len (varsA (h.args.take k)) ns
    have hvb := varsA_len (h.args.take k)
    rw [List.length_take] at hvb
    have HLB : Hid ((addAll ns (varsA (h.args.take k))).length ≤ 2097152) := by unfold Hid; omega
    have HV2 : Hid (addAll ns (varsA (h.args.take (k + 1))) = addAll (addAll ns (varsA (h.args.take k))) (vaVar h.args[k].v)) := by rw [Hid, varsA_take hlt, addAll_append]
    generalize addAll ns (varsA (h.args.take k)) = ps at *
    clear hlb hvb
    go_wp2_with fail
    refine (use_any (fun g => Pr g ∨ g = w.heap.size) h.args[k].v Bn ps _ (Names.keep HNr.out ?b0) ?b1 (.inl (HC.out.low _ (by omega))) hsz HLB.out).mono ?_
    case b0 => exact (Below.refl _ _).alloc (Nat.le_refl _) _
    case b1 => exact fun g hg => by have := Cr.out.lt g hg; simp; omega
    rintro e w1 ⟨rfl, hN1, hK1⟩
    have N1 : Hid (Names (fun g => Pr g ∨ g = w.heap.size) Bn w1 (addAll ps (vaVar h.args[k].v))) := hN1
    have K1 : Hid (KeptP (fun g => Pr g ∨ g = w.heap.size) Bn W w1) := HK.out.trans ((KeptP.of ((Below.refl _ _).alloc (Nat.le_refl _) _) Cr.out.lt).trans hK1)
    clear hN1 hK1 uA u0 d0 d1 d2 d3
    go_wp2_with fail
    exact ⟨⟨k + 1, by omega, by go_num, K1, by rw [HV2.out]; exact N1.out⟩, by simp [intOf]; omega⟩

def EachSels (l : Sels) : Prop := ∀ (Pr : Nat → Prop) (a : Option Addr) (c Bn : Nat) (ns : List ByteArray) (w : World), Names Pr Bn w ns → Ctx Pr Bn w → SelRow 0 Bn w a l → l.len ≤ 1048576 → SelsBd 1048576 l → ns.length + vwS l ≤ 2097152 →
    Calls Try.prog 22 #[.slice a l.len c, .func (.func 23) #[] #[.pointer (some ⟨Bn + 1, 0, none⟩)]] w fun e w' => e = .returned (.tuple #[]) ∧ Names Pr Bn w' (addAll ns (varsS l)) ∧ KeptP Pr Bn w w'
set_option maxHeartbeats 4000000 in
set_option maxRecDepth 40000 in
theorem each_sels (l : Sels) : EachSels l := by
  induction hN : l.size using Nat.strongRecOn generalizing l with
  | _ N ih =>
  subst hN
  intro Pr a c Bn ns w hNm hC hr hl hbd hn
  have IH : Hid (∀ sub : Sels, sub.size < l.size → EachSels sub) := fun sub hsub => ih sub.size hsub sub rfl
  have HR : Hid (SelFrom 0 Bn w a 0 l) := hr.from_
  have HB : Hid (SelsBd 1048576 l) := hbd
  have HC : Hid (Ctx Pr Bn w) := hC
  have HNm : Hid (Names Pr Bn w ns) := hNm
  clear hr ih hbd hC hNm
  go_enter Try.func22, Try.ntmps22
  go_wp2_with fail
  go_loopw [8] (fun i w' => ∃ (k : Nat) (ms : List ByteArray) (rest : Sels), Hid (l.len = k + rest.len) ∧ i = .int .i64 k ∧ Hid (KeptP Pr Bn w w') ∧ Hid (rest.size ≤ l.size) ∧ Hid (SelsBd 1048576 rest) ∧ Hid (SelFrom 0 Bn w a k rest) ∧ Hid (Names Pr Bn w' ms) ∧ Hid (addAll ns (varsS l) = addAll ms (varsS rest)) ∧ Hid (ms.length + vwS rest ≤ 2097152)) (fun i _ => l.len - (intOf i).toNat)
  case atStart => exact ⟨0, ns, l, by simp [Hid], rfl, KeptP.refl _ _ _, Nat.le_refl _, HB, HR, HNm, rfl, hn⟩
  case round =>
    obtain ⟨k, ms, rest, HK, rfl, HKP, HZ, HD, HF, HM, HV, HL⟩ := hrel
    have Cr : Hid (Ctx Pr Bn wr) := HC.out.keep HKP.out
    have hzr := HKP.out.size
    cases rest with
    | nil =>
      have hk' : ¬ k < l.len := by rw [HK.out]; simp only [Sels.len]; omega
      have NE : Hid (Names Pr Bn wr (addAll ns (varsS l))) := by rw [Hid, HV.out]; exact HM.out
      clear HV HM
      go_wp2_with fail
      go_end0
      exact ⟨rfl, NE.out, HKP.out⟩
    | cons h sub rest =>
      have hlt : k < l.len := by rw [HK.out]; simp only [Sels.len]; omega
      have HK2 : Hid (l.len = k + 1 + rest.len) := by rw [Hid, HK.out]; simp only [Sels.len]; omega
      obtain ⟨b, o, a1, c1, a2, c2, a3, c3, ha, _, hbl, d0, d1, d2, d3, d4, d5, r1, r2, r3, _⟩ := (HF.out.keep (Below.agree (HC.out.below HKP.out) (Nat.le_refl _))).step
      have HF2 : Hid (SelFrom 0 Bn w a (k + 1) rest) := SelFrom.next HF.out
      subst ha
      have R1 : Hid (ArRow 0 Bn wr a1 h.args) := r1
      have R2 : Hid (DiRow 0 Bn wr a2 h.dirs) := r2
      have R3 : Hid (SelRow 0 Bn wr a3 sub) := r3
      obtain ⟨e1, e2, e3, e4⟩ := HD.out
      have E1 : Hid (HdBd 1048576 h) := e1
      have E3 : Hid (SelsBd 1048576 sub) := e3
      have E4 : Hid (SelsBd 1048576 rest) := e4
      have HZ2 : Hid (rest.size ≤ l.size) := by have := HZ.out; simp only [Sels.size] at this; unfold Hid; omega
      have IS : Hid (EachSels sub) := IH.out sub (by have := HZ.out; simp only [Sels.size] at this; omega)
      have hL := HL.out
      simp only [vwS] at hL
      have hz : Bn + 1 < wr.heap.size := Cr.out.lt _ (Cr.out.low _ (Nat.le_refl _))
      clear r1 r2 r3 e1 e3 e4
      go_wp2_with fail
      obtain ⟨W, hW⟩ : ∃ W, W = wr.alloc (.cells #[.int .i64 h.k, .string h.al, .string h.nm, .slice a1 h.args.length c1, .slice a2 h.dirs.length c2, .slice a3 sub.len c3] 54) := ⟨_, rfl⟩
      rw [← hW]
      have zW : W.heap.size = wr.heap.size + 1 := by rw [hW]; simp
      have B0 : Hid (Below wr.heap.size wr W) := by rw [hW]; exact (Below.refl _ _).alloc (Nat.le_refl _) _
      have HDW : Hid (W.cell? ⟨wr.heap.size, 5, none⟩ = some (.slice a3 sub.len c3)) := by rw [hW]; exact row_cell (heap_alloc_new _ _) 5
      have CW : Hid (Ctx (fun g => Pr g ∨ g = wr.heap.size) Bn W) := Cr.out.ext B0.out (by omega)
      clear hW d0 d1 d2 d3 d4 d5
      refine (look_any (fun g => Pr g ∨ g = wr.heap.size) h sub a1 a2 a3 c1 c2 c3 Bn ms _ (Names.keep (Names.ext HM.out (Nat.le_refl _)) B0.out) CW.out (R1.out.keep (Below.agree B0.out (by omega))) (R2.out.keep (Below.agree B0.out (by omega))) E1.out (by omega)).mono ?_
      rintro e w1 ⟨rfl, hN1, hK1⟩
      have N1 : Hid (Names Pr Bn w1 (addAll ms (varsH h))) := Names.less hN1 (fun g hg => .inl hg)
      have hd5 : w1.cell? ⟨wr.heap.size, 5, none⟩ = some (.slice a3 sub.len c3) := by
        have e := hK1.block wr.heap.size (.inr rfl) (by omega)
        have := HDW.out
        simp only [World.cell?, e] at this ⊢
        exact this
      have K1 : Hid (KeptP Pr Bn wr w1) := (KeptP.of B0.out Cr.out.lt).trans (hK1.less (fun g hg => .inl hg))
      have hl1 : (addAll ms (varsH h)).length ≤ ms.length + (h.args.length + h.dirs.length) := by
        have q1 := addAll_len (varsH h) ms
        have q2 := varsA_len h.args
        have q3 := varsD_len h.dirs
        have q4 : (varsH h).length = (varsA h.args).length + (varsD h.dirs).length := by simp [varsH]
        omega
      have HV1 : Hid (addAll ns (varsS l) = addAll (addAll ms (varsH h)) (varsS sub ++ varsS rest)) := by rw [Hid, HV.out]; exact addAll_append _ _ _
      clear hN1 hK1 HDW
      generalize addAll ms (varsH h) = ps at *
      go_wp2_with fail
      refine (IS.out Pr a3 c3 Bn ps _ N1.out (Cr.out.keep K1.out) (SelRow.keep R3.out (Below.agree (Cr.out.below K1.out) (Nat.le_refl _))) e2 E3.out (by omega)).mono ?_
      rintro e w2 ⟨rfl, hN2, hK2⟩
      have N2 : Hid (Names Pr Bn w2 (addAll ps (varsS sub))) := hN2
      have K2 : Hid (KeptP Pr Bn w w2) := HKP.out.trans (K1.out.trans hK2)
      have HL2 : Hid ((addAll ps (varsS sub)).length + vwS rest ≤ 2097152) := by
        have q1 := addAll_len (varsS sub) ps
        have q2 := varsS_len sub
        unfold Hid; omega
      have HV2 : Hid (addAll ns (varsS l) = addAll (addAll ps (varsS sub)) (varsS rest)) := by rw [Hid, HV1.out]; exact addAll_append _ _ _
      clear hN2 hK2 hd5
      go_wp2_with fail
      exact ⟨⟨k + 1, _, rest, HK2, by go_num, K2, HZ2, E4, HF2, N2, HV2, HL2⟩, by simp [intOf]; omega⟩
end Go.Proofs.Ytdamienfcfojiaa
