/- The program's holding of schemas against each other. -/
import Derived.Test.YtbhkcgmlkahodajSchImpl
import Derived.Laws.StructEq
namespace Go.Proofs.Ytbhkcgmlkahodaj.G
open Go.ChangeShapes Go.WideShapes Go.ChangeAt Go.RowKit
set_option linter.unusedVariables false

theorem str_eq {a b : ByteArray} (h : (a.toList == b.toList) = true) : a = b := by
  rw [beq_iff_eq, ByteArray.toList_eq, ByteArray.toList_eq] at h
  exact bytes_inj h
theorem str_ne {a b : ByteArray} (h : (a.toList == b.toList) = false) : a ≠ b := by
  intro e; rw [e] at h; simp at h
theorem take_eq {α : Type} {l l' : List α} {k : Nat} (h : l.take k = l'.take k) (hk : k < l.length) (hk' : k < l'.length) (he : l[k] = l'[k]) : l.take (k + 1) = l'.take (k + 1) := by
  rw [List.take_succ_eq_append_getElem hk, List.take_succ_eq_append_getElem hk', h, he]
theorem take_ne {α : Type} {l l' : List α} {k : Nat} (hk : k < l.length) (hk' : k < l'.length) (he : l[k] ≠ l'[k]) : l ≠ l' := by
  intro e; subst e; exact he rfl
set_option maxRecDepth 100000 in
theorem ag_und : Try.prog.underlying 70 = some (.struct (Try.prog.fieldsOf 70)) := by kernel_rfl
theorem ag_held : Try.prog.stoodInHeld 70 = false := by kernel_rfl
theorem ag_guard : Try.prog.eqGuardType Try.prog.depth 70 = false := by kernel_rfl
theorem part_s (w : World) (s : ByteArray) (b : Bool) : (part 9 #[.string s, .bool b] 0).run Try.prog w = .ok (.string s) w := by kernel_rfl
theorem part_b (w : World) (s : ByteArray) (b : Bool) : (part 4 #[.string s, .bool b] 1).run Try.prog w = .ok (.bool b) w := by kernel_rfl
set_option maxRecDepth 100000 in
theorem ag_neq (x y : Ag) (w : World) : (binOp .neq 70 (.agg #[.string x.nm, .bool x.need]) (.agg #[.string y.nm, .bool y.need])).run Try.prog w = .ok (.bool (!((x.nm.toList == y.nm.toList) && (x.need == y.need)))) w := by
  rw [run_neq_struct, run_equalIn_agg w _ _ _ _ ag_und ag_held]
  have hf : ∃ f0 f1 : Field, (Try.prog.fieldsOf 70).toList = [f0, f1] ∧ f0.name ≠ "_" ∧ f1.name ≠ "_" ∧ f0.type = 9 ∧ f0.offset = 0 ∧ f1.type = 4 ∧ f1.offset = 1 := by
    refine ⟨_, _, rfl, ?_, ?_, ?_, ?_, ?_, ?_⟩ <;> decide +kernel
  obtain ⟨f0, f1, hl, n0, n1, t0, o0, t1, o1⟩ := hf
  rw [hl]
  simp only [Op.eqFields, n0, n1, ne_eq, not_false_eq_true, if_true, t0, o0, t1, o1, Sem.run_bind, part_s, Result.andThen_ok]
  rw [run_equalIn_string w _ _ _ _ Try.underlying9]
  simp only [Result.andThen_ok, Sem.run_ite]
  cases (x.nm.toList == y.nm.toList)
  · simp
  · simp only [Bool.not_true, Bool.false_eq_true, if_false, Sem.run_bind, part_b, Result.andThen_ok]
    rw [run_equalIn_bool' w _ _ _ _ Try.underlying4]
    cases (x.need == y.need) <;> simp
set_option maxHeartbeats 2000000 in
theorem same_Ags (a a' : Option Addr) (c c' : Nat) (l l' : List Ag) (w : World) (hr : AgRow 0 w.heap.size w a l) (hr' : AgRow 0 w.heap.size w a' l') (hl : l.length ≤ 1048576) (hl' : l'.length ≤ 1048576) :
    Calls Try.prog 88 #[.slice a l.length c, .slice a' l'.length c'] w fun e w' => Says (l = l') e ∧ Below w.heap.size w w' := by
  by_cases hll : l.length = l'.length
  case neg =>
    have HN : Hid (¬ l = l') := fun h => hll (congrArg _ h)
    have h1 : ((l.length : Int) == (l'.length : Int)) = false := by rw [beq_eq_false_iff_ne]; omega
    have h2 : ((l.length : Int) != (l'.length : Int)) = true := by rw [bne, h1]; rfl
    go_enter Try.func88, Try.ntmps88
    go_wp2_with fail
    go_ret
    exact ⟨Says.no HN.out, Below.refl _ _⟩
  have HR : Hid (AgRow 0 w.heap.size w a l) := hr
  have HR' : Hid (AgRow 0 w.heap.size w a' l') := hr'
  have HLL : Hid (l.length = l'.length) := hll
  have hl2 : (l'.length : Int) = (l.length : Int) := by omega
  clear hr hr' hll
  rw [← HLL.out]
  go_enter Try.func88, Try.ntmps88
  go_wp2_with fail
  go_loopw [13] (fun i w' => ∃ (k : Nat), k ≤ l.length ∧ i = .int .i64 k ∧ Below w.heap.size w w' ∧ Hid (l.take k = l'.take k)) (fun i _ => l.length - (intOf i).toNat)
  case atStart => exact ⟨0, by omega, rfl, Below.refl _ _, rfl⟩
  case round =>
    obtain ⟨k, hk, rfl, hb, HA⟩ := hrel
    by_cases hlt : k < l.length
    · have hlt2 : k < l'.length := by have := HLL.out; omega
      have hlt3 : (k : Int) < l.length := by omega
      obtain ⟨b, o, ha, _, hbl, d0, d1⟩ := AgRow.cells (AgRow.keep HR.out (agree hb (Nat.le_refl _))) k hlt
      obtain ⟨b', o', ha', _, hbl', f0, f1⟩ := AgRow.cells (AgRow.keep HR'.out (agree hb (Nat.le_refl _))) k hlt2
      subst ha
      subst ha'
      have hneq := ag_neq l[k] l'[k]
      have hgd := ag_guard
      cases hn : (l[k].nm.toList == l'[k].nm.toList)
      · have HN : Hid (¬ l = l') := take_ne hlt hlt2 (fun h => str_ne hn (congrArg _ h))
        go_wp2_with fail
        go_quiet (fail)
        go_wp2_with fail
        go_ret
        exact ⟨Says.no HN.out, hb.trans (by exact ⟨rfl, rfl, rfl, Nat.le_refl _, fun _ _ => rfl⟩)⟩
      cases hd : (l[k].need == l'[k].need)
      · have HN : Hid (¬ l = l') := take_ne hlt hlt2 (fun h => by rw [h] at hd; simp at hd)
        go_wp2_with fail
        go_quiet (fail)
        go_wp2_with fail
        go_ret
        exact ⟨Says.no HN.out, hb.trans (by exact ⟨rfl, rfl, rfl, Nat.le_refl _, fun _ _ => rfl⟩)⟩
      · have HN : Hid (l.take (k + 1) = l'.take (k + 1)) := take_eq HA.out hlt hlt2 (by
          have h1 := str_eq hn
          have h2 : l[k].need = l'[k].need := by simpa using hd
          cases hx : l[k] with | mk a1 a2 => cases hy : l'[k] with | mk b1 b2 => rw [hx, hy] at h1 h2; simp only at h1 h2; rw [h1, h2])
        go_wp2_with fail
        go_quiet (fail)
        go_wp2_with fail
        go_roundw
        case rel => exact ⟨k + 1, by omega, by go_num, hb.trans (by exact ⟨rfl, rfl, rfl, Nat.le_refl _, fun _ _ => rfl⟩), HN⟩
        case measure => simp [intOf]; omega
    · have HN : Hid (l = l') := by
        have h1 := HA.out
        have h2 := HLL.out
        rw [List.take_of_length_le (by omega), List.take_of_length_le (by omega)] at h1
        exact h1
      go_wp2_with fail
      go_ret
      exact ⟨Says.yes HN.out, hb⟩
theorem Fd.eq {x y : Fd} (h1 : x.nm = y.nm) (h2 : x.args = y.args) (h3 : x.ty = y.ty) (h4 : x.ls = y.ls) (h5 : x.bg = y.bg) : x = y := by
  cases x; cases y; simp_all
theorem Td.eq {x y : Td} (h1 : x.nm = y.nm) (h2 : x.fs = y.fs) : x = y := by
  cases x; cases y; simp_all
set_option maxHeartbeats 2000000 in
set_option maxRecDepth 40000 in
theorem same_Fd (x y : Fd) (a3 b3 : Option Addr) (c3 d3 : Nat) (w : World) (r3 : AgRow 0 w.heap.size w a3 x.args) (s3 : AgRow 0 w.heap.size w b3 y.args) (hx : x.args.length ≤ 1048576) (hy : y.args.length ≤ 1048576) :
    Calls Try.prog 77 #[.agg #[.string x.nm, .slice a3 x.args.length c3, .string x.ty, .bool x.ls, .bool x.bg], .agg #[.string y.nm, .slice b3 y.args.length d3, .string y.ty, .bool y.ls, .bool y.bg]] w fun e w' => Says (x = y) e ∧ Below w.heap.size w w' := by
  have B0 : Hid (Below w.heap.size w ((w.alloc (.cells #[.string x.nm, .slice a3 x.args.length c3, .string x.ty, .bool x.ls, .bool x.bg] 36)).alloc (.cells #[.string y.nm, .slice b3 y.args.length d3, .string y.ty, .bool y.ls, .bool y.bg] 36))) := ((Below.refl _ _).alloc (Nat.le_refl _) _).alloc (by simp) _
  have K3 : Hid (∀ W0, Below w.heap.size w W0 → AgRow 0 W0.heap.size W0 a3 x.args ∧ AgRow 0 W0.heap.size W0 b3 y.args) := fun W0 hB => ⟨AgRow.up r3 hB, AgRow.up s3 hB⟩
  clear r3 s3
  cases h1 : (x.nm.toList == y.nm.toList)
  · have HN : Hid (¬ x = y) := fun h => str_ne h1 (congrArg _ h)
    go_enter Try.func77, Try.ntmps77
    go_wp2_with fail
    go_ret
    exact ⟨Says.no HN.out, B0.out⟩
  cases h2 : (x.ty.toList == y.ty.toList)
  · have HN : Hid (¬ x = y) := fun h => str_ne h2 (congrArg _ h)
    go_enter Try.func77, Try.ntmps77
    go_wp2_with fail
    go_ret
    exact ⟨Says.no HN.out, B0.out⟩
  cases h3 : (x.ls == y.ls)
  · have HN : Hid (¬ x = y) := fun h => by rw [h] at h3; simp at h3
    go_enter Try.func77, Try.ntmps77
    go_wp2_with fail
    go_ret
    exact ⟨Says.no HN.out, B0.out⟩
  cases h4 : (x.bg == y.bg)
  · have HN : Hid (¬ x = y) := fun h => by rw [h] at h4; simp at h4
    go_enter Try.func77, Try.ntmps77
    go_wp2_with fail
    go_ret
    exact ⟨Says.no HN.out, B0.out⟩
  go_enter Try.func77, Try.ntmps77
  go_wp2_with fail
  refine (same_Ags a3 b3 c3 d3 x.args y.args _ (K3.out _ B0.out).1 (K3.out _ B0.out).2 hx hy).mono ?_
  rintro e w1 ⟨⟨bb, rfl, ⟨rfl, hf⟩ | ⟨rfl, hf⟩⟩, hb1⟩
  · have HN : Hid (x = y) := Fd.eq (str_eq h1) hf (str_eq h2) (by simpa using h3) (by simpa using h4)
    have Q1 : Hid (Below w.heap.size w w1) := B0.out.trans (hb1.mono (by simp <;> omega))
    clear hb1
    go_wp2_with fail
    go_ret
    exact ⟨Says.yes HN.out, Q1.out⟩
  · have HN : Hid (¬ x = y) := fun h => hf (congrArg _ h)
    have Q1 : Hid (Below w.heap.size w w1) := B0.out.trans (hb1.mono (by simp <;> omega))
    clear hb1
    go_wp2_with fail
    go_ret
    exact ⟨Says.no HN.out, Q1.out⟩
set_option maxHeartbeats 2000000 in
set_option maxRecDepth 40000 in
theorem same_Fds (a a' : Option Addr) (c c' : Nat) (l l' : List Fd) (w : World) (hr : FdRow 0 w.heap.size w a l) (hr' : FdRow 0 w.heap.size w a' l') (hbd : FdsBd 1048576 l) (hbd' : FdsBd 1048576 l') :
    Calls Try.prog 76 #[.slice a l.length c, .slice a' l'.length c', .func (.func 77) #[] #[]] w fun e w' => Says (l = l') e ∧ Below w.heap.size w w' := by
  obtain ⟨hl, ht⟩ := hbd
  obtain ⟨hl', ht'⟩ := hbd'
  by_cases hll : l.length = l'.length
  case neg =>
    have HN : Hid (¬ l = l') := fun h => hll (congrArg _ h)
    have h1 : ((l.length : Int) == (l'.length : Int)) = false := by rw [beq_eq_false_iff_ne]; omega
    have h2 : ((l.length : Int) != (l'.length : Int)) = true := by rw [bne, h1]; rfl
    go_enter Try.func76, Try.ntmps76
    go_wp2_with fail
    go_ret
    exact ⟨Says.no HN.out, Below.refl _ _⟩
  have HR : Hid (FdRow 0 w.heap.size w a l) := hr
  have HR' : Hid (FdRow 0 w.heap.size w a' l') := hr'
  have HT : Hid (∀ x ∈ l, FdBd 1048576 x) := ht
  have HT' : Hid (∀ x ∈ l', FdBd 1048576 x) := ht'
  have HLL : Hid (l.length = l'.length) := hll
  clear hr hr' hll ht ht'
  rw [← HLL.out]
  go_enter Try.func76, Try.ntmps76
  go_wp2_with fail
  go_loopw [17] (fun i w' => ∃ (k : Nat), k ≤ l.length ∧ i = .int .i64 k ∧ Below w.heap.size w w' ∧ Hid (l.take k = l'.take k)) (fun i _ => l.length - (intOf i).toNat)
  case atStart => exact ⟨0, by omega, rfl, Below.refl _ _, rfl⟩
  case round =>
    obtain ⟨w0, rfl⟩ : ∃ x, x = wr := ⟨_, rfl⟩
    obtain ⟨k, hk, rfl, hb, HA⟩ := hrel
    by_cases hlt : k < l.length
    · have hlt2 : k < l'.length := by have := HLL.out; omega
      have hlt3 : (k : Int) < l.length := by omega
      obtain ⟨b, o, a5, c5, ha, _, hbl, d0, d1, d2, d3, d4, r3⟩ := FdRow.cells (FdRow.keep HR.out (agree hb (Nat.le_refl _))) k hlt
      obtain ⟨b', o', a6, c6, ha', _, hbl', f0, f1, f2, f3, f4, s3⟩ := FdRow.cells (FdRow.keep HR'.out (agree hb (Nat.le_refl _))) k hlt2
      subst ha
      subst ha'
      have hbz := hb.size
      have hb0 : b < w0.heap.size := by omega
      have hb0' : b' < w0.heap.size := by omega
      have HX : Hid (FdBd 1048576 l[k]) := HT.out l[k] (List.getElem_mem hlt)
      have HY : Hid (FdBd 1048576 l'[k]) := HT'.out l'[k] (List.getElem_mem hlt2)
      have K3 : Hid (∀ W0, Below w0.heap.size w0 W0 → AgRow 0 W0.heap.size W0 a5 l[k].args ∧ AgRow 0 W0.heap.size W0 a6 l'[k].args) := fun W0 hB => ⟨AgRow.up (AgRow.wide r3 (Nat.le_refl _) hb.size) hB, AgRow.up (AgRow.wide s3 (Nat.le_refl _) hb.size) hB⟩
      clear r3 s3
      go_wp2_with fail
      refine Calls.mono (same_Fd l[k] l'[k] a5 a6 c5 c6 _ (K3.out _ ?b0).1 (K3.out _ ?b0).2 HX.out.2.1.1 HY.out.2.1.1) ?_
      case b0 => repeat (first | exact Below.refl _ _ | refine Below.setCell ?_ (by first | omega | (simp <;> omega)) _ | refine Below.alloc ?_ (by first | omega | (simp <;> omega)) _)
      rintro e w1 ⟨⟨bb, rfl, ⟨rfl, hf⟩ | ⟨rfl, hf⟩⟩, hb1⟩
      · have q1 : Hid (Below w.heap.size w w1) := by
          refine hb.trans (Below.trans ?_ (hb1.mono (by first | omega | (simp <;> omega))))
          repeat (first | exact Below.refl _ _ | refine Below.setCell ?_ (by first | omega | (simp <;> omega)) _ | refine Below.alloc ?_ (by first | omega | (simp <;> omega)) _)
        have HN : Hid (l.take (k + 1) = l'.take (k + 1)) := take_eq HA.out hlt hlt2 hf
        clear hb1
        go_wp2_with fail
        go_roundw
        case rel => exact ⟨k + 1, by omega, by go_num, q1.out, HN⟩
        case measure => simp [intOf]; omega
      · have q1 : Hid (Below w.heap.size w w1) := by
          refine hb.trans (Below.trans ?_ (hb1.mono (by first | omega | (simp <;> omega))))
          repeat (first | exact Below.refl _ _ | refine Below.setCell ?_ (by first | omega | (simp <;> omega)) _ | refine Below.alloc ?_ (by first | omega | (simp <;> omega)) _)
        have HN : Hid (¬ l = l') := take_ne hlt hlt2 hf
        clear hb1
        go_wp2_with fail
        go_ret
        exact ⟨Says.no HN.out, q1.out⟩
    · have HN : Hid (l = l') := by
        have h1 := HA.out
        have h2 := HLL.out
        rw [List.take_of_length_le (by omega), List.take_of_length_le (by omega)] at h1
        exact h1
      go_wp2_with fail
      go_ret
      exact ⟨Says.yes HN.out, hb⟩
set_option maxHeartbeats 2000000 in
set_option maxRecDepth 40000 in
theorem same_Td (x y : Td) (a3 b3 : Option Addr) (c3 d3 : Nat) (w : World) (r3 : FdRow 0 w.heap.size w a3 x.fs) (s3 : FdRow 0 w.heap.size w b3 y.fs) (hx : FdsBd 1048576 x.fs) (hy : FdsBd 1048576 y.fs) :
    Calls Try.prog 52 #[.agg #[.string x.nm, .slice a3 x.fs.length c3], .agg #[.string y.nm, .slice b3 y.fs.length d3]] w fun e w' => Says (x = y) e ∧ Below w.heap.size w w' := by
  have B0 : Hid (Below w.heap.size w ((w.alloc (.cells #[.string x.nm, .slice a3 x.fs.length c3] 58)).alloc (.cells #[.string y.nm, .slice b3 y.fs.length d3] 58))) := ((Below.refl _ _).alloc (Nat.le_refl _) _).alloc (by simp) _
  have K3 : Hid (∀ W0, Below w.heap.size w W0 → FdRow 0 W0.heap.size W0 a3 x.fs ∧ FdRow 0 W0.heap.size W0 b3 y.fs) := fun W0 hB => ⟨FdRow.up r3 hB, FdRow.up s3 hB⟩
  have HX : Hid _ := hx
  have HY : Hid _ := hy
  clear r3 s3 hx hy
  cases h1 : (x.nm.toList == y.nm.toList)
  · have HN : Hid (¬ x = y) := fun h => str_ne h1 (congrArg _ h)
    go_enter Try.func52, Try.ntmps52
    go_wp2_with fail
    go_ret
    exact ⟨Says.no HN.out, B0.out⟩
  go_enter Try.func52, Try.ntmps52
  go_wp2_with fail
  refine (same_Fds a3 b3 c3 d3 x.fs y.fs _ (K3.out _ B0.out).1 (K3.out _ B0.out).2 HX.out HY.out).mono ?_
  rintro e w1 ⟨⟨bb, rfl, ⟨rfl, hf⟩ | ⟨rfl, hf⟩⟩, hb1⟩
  · have HN : Hid (x = y) := Td.eq (str_eq h1) hf
    have Q1 : Hid (Below w.heap.size w w1) := B0.out.trans (hb1.mono (by simp <;> omega))
    clear hb1
    go_wp2_with fail
    go_ret
    exact ⟨Says.yes HN.out, Q1.out⟩
  · have HN : Hid (¬ x = y) := fun h => hf (congrArg _ h)
    have Q1 : Hid (Below w.heap.size w w1) := B0.out.trans (hb1.mono (by simp <;> omega))
    clear hb1
    go_wp2_with fail
    go_ret
    exact ⟨Says.no HN.out, Q1.out⟩
set_option maxHeartbeats 2000000 in
set_option maxRecDepth 40000 in
theorem same_Tds (a a' : Option Addr) (c c' : Nat) (l l' : List Td) (w : World) (hr : TdRow 0 w.heap.size w a l) (hr' : TdRow 0 w.heap.size w a' l') (hbd : TdsBd 1048576 l) (hbd' : TdsBd 1048576 l') :
    Calls Try.prog 51 #[.slice a l.length c, .slice a' l'.length c', .func (.func 52) #[] #[]] w fun e w' => Says (l = l') e ∧ Below w.heap.size w w' := by
  obtain ⟨hl, ht⟩ := hbd
  obtain ⟨hl', ht'⟩ := hbd'
  by_cases hll : l.length = l'.length
  case neg =>
    have HN : Hid (¬ l = l') := fun h => hll (congrArg _ h)
    have h1 : ((l.length : Int) == (l'.length : Int)) = false := by rw [beq_eq_false_iff_ne]; omega
    have h2 : ((l.length : Int) != (l'.length : Int)) = true := by rw [bne, h1]; rfl
    go_enter Try.func51, Try.ntmps51
    go_wp2_with fail
    go_ret
    exact ⟨Says.no HN.out, Below.refl _ _⟩
  have HR : Hid (TdRow 0 w.heap.size w a l) := hr
  have HR' : Hid (TdRow 0 w.heap.size w a' l') := hr'
  have HT : Hid (∀ x ∈ l, TdBd 1048576 x) := ht
  have HT' : Hid (∀ x ∈ l', TdBd 1048576 x) := ht'
  have HLL : Hid (l.length = l'.length) := hll
  clear hr hr' hll ht ht'
  rw [← HLL.out]
  go_enter Try.func51, Try.ntmps51
  go_wp2_with fail
  go_loopw [17] (fun i w' => ∃ (k : Nat), k ≤ l.length ∧ i = .int .i64 k ∧ Below w.heap.size w w' ∧ Hid (l.take k = l'.take k)) (fun i _ => l.length - (intOf i).toNat)
  case atStart => exact ⟨0, by omega, rfl, Below.refl _ _, rfl⟩
  case round =>
    obtain ⟨w0, rfl⟩ : ∃ x, x = wr := ⟨_, rfl⟩
    obtain ⟨k, hk, rfl, hb, HA⟩ := hrel
    by_cases hlt : k < l.length
    · have hlt2 : k < l'.length := by have := HLL.out; omega
      have hlt3 : (k : Int) < l.length := by omega
      obtain ⟨b, o, a5, c5, ha, _, hbl, d0, d1, r3⟩ := TdRow.cells (TdRow.keep HR.out (agree hb (Nat.le_refl _))) k hlt
      obtain ⟨b', o', a6, c6, ha', _, hbl', f0, f1, s3⟩ := TdRow.cells (TdRow.keep HR'.out (agree hb (Nat.le_refl _))) k hlt2
      subst ha
      subst ha'
      have hbz := hb.size
      have hb0 : b < w0.heap.size := by omega
      have hb0' : b' < w0.heap.size := by omega
      have HX : Hid (TdBd 1048576 l[k]) := HT.out l[k] (List.getElem_mem hlt)
      have HY : Hid (TdBd 1048576 l'[k]) := HT'.out l'[k] (List.getElem_mem hlt2)
      have K3 : Hid (∀ W0, Below w0.heap.size w0 W0 → FdRow 0 W0.heap.size W0 a5 l[k].fs ∧ FdRow 0 W0.heap.size W0 a6 l'[k].fs) := fun W0 hB => ⟨FdRow.up (FdRow.wide r3 (Nat.le_refl _) hb.size) hB, FdRow.up (FdRow.wide s3 (Nat.le_refl _) hb.size) hB⟩
      clear r3 s3
      go_wp2_with fail
      refine Calls.mono (same_Td l[k] l'[k] a5 a6 c5 c6 _ (K3.out _ ?b0).1 (K3.out _ ?b0).2 HX.out.2 HY.out.2) ?_
      case b0 => repeat (first | exact Below.refl _ _ | refine Below.setCell ?_ (by first | omega | (simp <;> omega)) _ | refine Below.alloc ?_ (by first | omega | (simp <;> omega)) _)
      rintro e w1 ⟨⟨bb, rfl, ⟨rfl, hf⟩ | ⟨rfl, hf⟩⟩, hb1⟩
      · have q1 : Hid (Below w.heap.size w w1) := by
          refine hb.trans (Below.trans ?_ (hb1.mono (by first | omega | (simp <;> omega))))
          repeat (first | exact Below.refl _ _ | refine Below.setCell ?_ (by first | omega | (simp <;> omega)) _ | refine Below.alloc ?_ (by first | omega | (simp <;> omega)) _)
        have HN : Hid (l.take (k + 1) = l'.take (k + 1)) := take_eq HA.out hlt hlt2 hf
        clear hb1
        go_wp2_with fail
        go_roundw
        case rel => exact ⟨k + 1, by omega, by go_num, q1.out, HN⟩
        case measure => simp [intOf]; omega
      · have q1 : Hid (Below w.heap.size w w1) := by
          refine hb.trans (Below.trans ?_ (hb1.mono (by first | omega | (simp <;> omega))))
          repeat (first | exact Below.refl _ _ | refine Below.setCell ?_ (by first | omega | (simp <;> omega)) _ | refine Below.alloc ?_ (by first | omega | (simp <;> omega)) _)
        have HN : Hid (¬ l = l') := take_ne hlt hlt2 hf
        clear hb1
        go_wp2_with fail
        go_ret
        exact ⟨Says.no HN.out, q1.out⟩
    · have HN : Hid (l = l') := by
        have h1 := HA.out
        have h2 := HLL.out
        rw [List.take_of_length_le (by omega), List.take_of_length_le (by omega)] at h1
        exact h1
      go_wp2_with fail
      go_ret
      exact ⟨Says.yes HN.out, hb⟩
set_option maxHeartbeats 2000000 in
set_option maxRecDepth 40000 in
theorem impl_same (a a' : Option Addr) (c c' : Nat) (l l' : List Td) (w : World) (hr : TdRow 0 w.heap.size w a l) (hr' : TdRow 0 w.heap.size w a' l') (hb : TdsBd 1048576 l) (hb' : TdsBd 1048576 l') :
    Calls Try.prog 25 #[.agg #[.slice a l.length c], .agg #[.slice a' l'.length c']] w fun e w' => Says (SchOK l ∧ SchOK l' ∧ l = l') e ∧ Below w.heap.size w w' := by
  have B0 : Hid (Below w.heap.size w ((w.alloc (.cells #[.slice a l.length c] 30)).alloc (.cells #[.slice a' l'.length c'] 30))) := ((Below.refl _ _).alloc (Nat.le_refl _) _).alloc (by simp) _
  have K3 : Hid (∀ W0, Below w.heap.size w W0 → TdRow 0 W0.heap.size W0 a l ∧ TdRow 0 W0.heap.size W0 a' l') := fun W0 hB => ⟨TdRow.up hr hB, TdRow.up hr' hB⟩
  have HX : Hid (TdsBd 1048576 l) := hb
  have HY : Hid (TdsBd 1048576 l') := hb'
  clear hr hr' hb hb'
  go_enter Try.func25, Try.ntmps25
  go_wp2_with fail
  refine (impl_schema a c l _ (K3.out _ B0.out).1 HX.out).mono ?_
  rintro e w1 ⟨⟨bb, rfl, ⟨rfl, hf⟩ | ⟨rfl, hf⟩⟩, hb1⟩
  case inr =>
    have HN : Hid (¬ (SchOK l ∧ SchOK l' ∧ l = l')) := fun h => hf h.1
    have Q1 : Hid (Below w.heap.size w w1) := B0.out.trans (hb1.mono (by simp <;> omega))
    clear hb1
    go_wp2_with fail
    go_ret
    exact ⟨Says.no HN.out, Q1.out⟩
  have Q1 : Hid (Below w.heap.size w w1) := B0.out.trans (hb1.mono (by simp <;> omega))
  have k1 := fun o => hb1.cell (p := ⟨w.heap.size, o, none⟩) (by simp <;> omega)
  have j1 := fun o => hb1.cell (p := ⟨w.heap.size + 1, o, none⟩) (by simp <;> omega)
  have z1 : w.heap.size + 2 ≤ w1.heap.size := by have := hb1.size; simp at this; omega
  have H1 : Hid (SchOK l) := hf
  clear hb1 hf
  go_wp2_with fail
  refine (impl_schema a' c' l' _ (K3.out _ Q1.out).2 HY.out).mono ?_
  rintro e w2 ⟨⟨bb, rfl, ⟨rfl, hf⟩ | ⟨rfl, hf⟩⟩, hb2⟩
  case inr =>
    have HN : Hid (¬ (SchOK l ∧ SchOK l' ∧ l = l')) := fun h => hf h.2.1
    have Q2 : Hid (Below w.heap.size w w2) := Q1.out.trans (hb2.mono (by omega))
    clear hb2
    go_wp2_with fail
    go_ret
    exact ⟨Says.no HN.out, Q2.out⟩
  have Q2 : Hid (Below w.heap.size w w2) := Q1.out.trans (hb2.mono (by omega))
  have k2 := fun o => (hb2.cell (p := ⟨w.heap.size, o, none⟩) (show w.heap.size < w1.heap.size by omega)).trans (k1 o)
  have j2 := fun o => (hb2.cell (p := ⟨w.heap.size + 1, o, none⟩) (show w.heap.size + 1 < w1.heap.size by omega)).trans (j1 o)
  have H2 : Hid (SchOK l') := hf
  clear hb2 hf k1 j1
  go_wp2_with fail
  refine (same_Tds a a' c c' l l' _ (K3.out _ Q2.out).1 (K3.out _ Q2.out).2 HX.out HY.out).mono ?_
  rintro e w3 ⟨⟨bb, rfl, ⟨rfl, hf⟩ | ⟨rfl, hf⟩⟩, hb3⟩
  · have HN : Hid (SchOK l ∧ SchOK l' ∧ l = l') := ⟨H1.out, H2.out, hf⟩
    have Q3 : Hid (Below w.heap.size w w3) := Q2.out.trans (hb3.mono Q2.out.size)
    clear hb3
    go_wp2_with fail
    go_ret
    exact ⟨Says.yes HN.out, Q3.out⟩
  · have HN : Hid (¬ (SchOK l ∧ SchOK l' ∧ l = l')) := fun h => hf h.2.2
    have Q3 : Hid (Below w.heap.size w w3) := Q2.out.trans (hb3.mono Q2.out.size)
    clear hb3
    go_wp2_with fail
    go_ret
    exact ⟨Says.no HN.out, Q3.out⟩
end Go.Proofs.Ytbhkcgmlkahodaj.G
