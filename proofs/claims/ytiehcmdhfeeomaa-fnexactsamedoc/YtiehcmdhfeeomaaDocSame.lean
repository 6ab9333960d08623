/- The program's holding of arguments and directives against each other. -/
import Derived.Test.YtiehcmdhfeeomaaDocPrintTwo
import Derived.Laws.StructEq
import Derived.Deep.QuietTactic
namespace Go.Proofs.Ytiehcmdhfeeomaa
open Go.ChangeShapes Go.WideShapes Go.ChangeAt Go.RowKit
set_option linter.unusedVariables false

def Bl (p : Prop) (b : Bool) : Prop := (b = true ∧ p) ∨ (b = false ∧ ¬ p)
theorem Bl.one {p : Prop} {a b : Bool} (h : Bl p a) (k : Bl p b) : a = b := by
  rcases h with ⟨rfl, h⟩ | ⟨rfl, h⟩ <;> rcases k with ⟨rfl, k⟩ | ⟨rfl, k⟩ <;> first | rfl | exact absurd h k | exact absurd k h
def Says (p : Prop) (e : Ending) : Prop := ∃ b, e = .returned (.bool b) ∧ Bl p b
theorem Says.yes {p : Prop} (h : p) : Says p (.returned (.bool true)) := ⟨_, rfl, .inl ⟨rfl, h⟩⟩
theorem Says.no {p : Prop} (h : ¬ p) : Says p (.returned (.bool false)) := ⟨_, rfl, .inr ⟨rfl, h⟩⟩
theorem str_eq {a b : ByteArray} (h : (a.toList == b.toList) = true) : a = b := by
  rw [beq_iff_eq, ByteArray.toList_eq, ByteArray.toList_eq] at h
  exact nl_inj h
theorem str_ne {a b : ByteArray} (h : (a.toList == b.toList) = false) : a ≠ b := by
  intro e; rw [e] at h; simp at h
theorem take_eq {α : Type} {l l' : List α} {k : Nat} (h : l.take k = l'.take k) (hk : k < l.length) (hk' : k < l'.length) (he : l[k] = l'[k]) : l.take (k + 1) = l'.take (k + 1) := by
  rw [List.take_succ_eq_append_getElem hk, List.take_succ_eq_append_getElem hk', h, he]
theorem take_ne {α : Type} {l l' : List α} {k : Nat} (hk : k < l.length) (hk' : k < l'.length) (he : l[k] ≠ l'[k]) : l ≠ l' := by
  intro e; subst e; exact he rfl
def vaEq (x y : Va) : Bool := (x.k == y.k) && ((x.n == y.n) && (x.t.toList == y.t.toList))
theorem va_yes {x y : Va} (h : vaEq x y = true) : x = y := by
  unfold vaEq at h
  simp only [Bool.and_eq_true] at h
  have h1 := str_eq h.2.2
  have h2 : x.k = y.k := by simpa using h.1
  have h3 : x.n = y.n := by simpa using h.2.1
  cases x; cases y; simp_all
theorem va_no {x y : Va} (h : vaEq x y = false) : x ≠ y := by
  intro e; subst e; simp [vaEq] at h
set_option maxRecDepth 100000 in
theorem va_und : Try.prog.underlying 91 = some (.struct (Try.prog.fieldsOf 91)) := by kernel_rfl
theorem va_held : Try.prog.stoodInHeld 91 = false := by kernel_rfl
theorem va_p0 (w : World) (a b : Int) (s : ByteArray) : (part 3 #[.int .i64 a, .int .i64 b, .string s] 0).run Try.prog w = .ok (.int .i64 a) w := by kernel_rfl
theorem va_p1 (w : World) (a b : Int) (s : ByteArray) : (part 3 #[.int .i64 a, .int .i64 b, .string s] 1).run Try.prog w = .ok (.int .i64 b) w := by kernel_rfl
theorem va_p2 (w : World) (a b : Int) (s : ByteArray) : (part 9 #[.int .i64 a, .int .i64 b, .string s] 2).run Try.prog w = .ok (.string s) w := by kernel_rfl
set_option maxRecDepth 100000 in
theorem va_equal (d : Nat) (x y : Va) (w : World) : (Op.equalIn (d + 2) 91 (.agg #[.int .i64 x.k, .int .i64 x.n, .string x.t]) (.agg #[.int .i64 y.k, .int .i64 y.n, .string y.t])).run Try.prog w = .ok (vaEq x y) w := by
  rw [run_equalIn_agg w _ _ _ _ va_und va_held]
  have hf : ∃ f0 f1 f2 : Field, (Try.prog.fieldsOf 91).toList = [f0, f1, f2] ∧ f0.name ≠ "_" ∧ f1.name ≠ "_" ∧ f2.name ≠ "_" ∧ f0.type = 3 ∧ f0.offset = 0 ∧ f1.type = 3 ∧ f1.offset = 1 ∧ f2.type = 9 ∧ f2.offset = 2 := by
    refine ⟨_, _, _, rfl, ?_, ?_, ?_, ?_, ?_, ?_, ?_, ?_, ?_⟩ <;> decide +kernel
  obtain ⟨f0, f1, f2, hl, n0, n1, n2, t0, o0, t1, o1, t2, o2⟩ := hf
  rw [hl]
  simp only [Op.eqFields, n0, n1, n2, ne_eq, not_false_eq_true, if_true, t0, o0, t1, o1, t2, o2, Sem.run_bind, va_p0, Result.andThen_ok]
  rw [run_equalIn_int w _ _ _ _ _ _ Try.underlying3]
  simp only [Result.andThen_ok, Sem.run_ite]
  unfold vaEq
  cases (x.k == y.k)
  · simp
  · simp only [Bool.not_true, Bool.false_eq_true, if_false, Sem.run_bind, va_p1, Result.andThen_ok]
    rw [run_equalIn_int w _ _ _ _ _ _ Try.underlying3]
    simp only [Result.andThen_ok, Sem.run_ite]
    cases (x.n == y.n)
    · simp
    · simp only [Bool.not_true, Bool.false_eq_true, if_false, Sem.run_bind, va_p2, Result.andThen_ok]
      rw [run_equalIn_string w _ _ _ _ Try.underlying9]
      cases (x.t.toList == y.t.toList) <;> simp
set_option maxRecDepth 100000 in
theorem ar_und : Try.prog.underlying 130 = some (.struct (Try.prog.fieldsOf 130)) := by kernel_rfl
theorem ar_held : Try.prog.stoodInHeld 130 = false := by kernel_rfl
theorem ar_guard : Try.prog.eqGuardType Try.prog.depth 130 = false := by kernel_rfl
theorem ar_p0 (w : World) (s : ByteArray) (a b : Int) (t : ByteArray) : (part 9 #[.string s, .int .i64 a, .int .i64 b, .string t] 0).run Try.prog w = .ok (.string s) w := by kernel_rfl
theorem ar_p1 (w : World) (s : ByteArray) (a b : Int) (t : ByteArray) : (part 91 #[.string s, .int .i64 a, .int .i64 b, .string t] 1).run Try.prog w = .ok (.agg #[.int .i64 a, .int .i64 b, .string t]) w := by kernel_rfl
set_option maxRecDepth 100000 in
theorem ar_neq (x y : Ar) (w : World) : (binOp .neq 130 (.agg #[.string x.nm, .int .i64 x.v.k, .int .i64 x.v.n, .string x.v.t]) (.agg #[.string y.nm, .int .i64 y.v.k, .int .i64 y.v.n, .string y.v.t])).run Try.prog w = .ok (.bool (!((x.nm.toList == y.nm.toList) && vaEq x.v y.v))) w := by
  rw [run_neq_struct, run_equalIn_agg w _ _ _ _ ar_und ar_held]
  have hf : ∃ f0 f1 : Field, (Try.prog.fieldsOf 130).toList = [f0, f1] ∧ f0.name ≠ "_" ∧ f1.name ≠ "_" ∧ f0.type = 9 ∧ f0.offset = 0 ∧ f1.type = 91 ∧ f1.offset = 1 := by
    refine ⟨_, _, rfl, ?_, ?_, ?_, ?_, ?_, ?_⟩ <;> decide +kernel
  obtain ⟨f0, f1, hl, n0, n1, t0, o0, t1, o1⟩ := hf
  rw [hl]
  simp only [Op.eqFields, n0, n1, ne_eq, not_false_eq_true, if_true, t0, o0, t1, o1, Sem.run_bind, ar_p0, Result.andThen_ok]
  rw [run_equalIn_string w _ _ _ _ Try.underlying9]
  simp only [Result.andThen_ok, Sem.run_ite]
  cases (x.nm.toList == y.nm.toList)
  · simp
  · simp only [Bool.not_true, Bool.false_eq_true, if_false, Sem.run_bind, ar_p1, Result.andThen_ok]
    rw [va_equal]
    cases vaEq x.v y.v <;> simp
set_option maxHeartbeats 2000000 in
theorem same_ar (a a' : Option Addr) (c c' : Nat) (l l' : List Ar) (w : World) (hr : ArRow 0 w.heap.size w a l) (hr' : ArRow 0 w.heap.size w a' l') (hl : l.length ≤ 1048576) (hl' : l'.length ≤ 1048576) :
    Calls Try.prog 92 #[.slice a l.length c, .slice a' l'.length c'] w fun e w' => Says (l = l') e ∧ Below w.heap.size w w' := by
  by_cases hll : l.length = l'.length
  case neg =>
    have HN : Hid (¬ l = l') := fun h => hll (congrArg _ h)
    have h1 : ((l.length : Int) == (l'.length : Int)) = false := by rw [beq_eq_false_iff_ne]; omega
    have h2 : ((l.length : Int) != (l'.length : Int)) = true := by rw [bne, h1]; rfl
    go_enter Try.func92, Try.ntmps92
    go_wp2_with fail
    go_ret
    exact ⟨Says.no HN.out, Below.refl _ _⟩
  have HR : Hid (ArRow 0 w.heap.size w a l) := hr
  have HR' : Hid (ArRow 0 w.heap.size w a' l') := hr'
  have HLL : Hid (l.length = l'.length) := hll
  have hl2 : (l'.length : Int) = (l.length : Int) := by omega
  clear hr hr' hll
  rw [← HLL.out]
  go_enter Try.func92, Try.ntmps92
  go_wp2_with fail
  go_loopw [13] (fun i w' => ∃ (k : Nat), k ≤ l.length ∧ i = .int .i64 k ∧ Below w.heap.size w w' ∧ Hid (l.take k = l'.take k)) (fun i _ => l.length - (intOf i).toNat)
  case atStart => exact ⟨0, by omega, rfl, Below.refl _ _, rfl⟩
  case round =>
    obtain ⟨k, hk, rfl, hb, HA⟩ := hrel
    by_cases hlt : k < l.length
    · have hlt2 : k < l'.length := by have := HLL.out; omega
      have hlt3 : (k : Int) < l.length := by omega
      obtain ⟨b, o, ha, _, hbl, d0, d1, d2, d3⟩ := Row.cells_ar (Row.keep HR.out (Below.agree hb (Nat.le_refl _))) k hlt
      obtain ⟨b', o', ha', _, hbl', f0, f1, f2, f3⟩ := Row.cells_ar (Row.keep HR'.out (Below.agree hb (Nat.le_refl _))) k hlt2
      subst ha
      subst ha'
      have hneq := ar_neq l[k] l'[k]
      have hgd := ar_guard
      cases hn : (l[k].nm.toList == l'[k].nm.toList)
      · have HN : Hid (¬ l = l') := take_ne hlt hlt2 (fun h => str_ne hn (congrArg _ h))
        go_wp2_with fail
        go_quiet (fail)
        go_wp2_with fail
        go_ret
        exact ⟨Says.no HN.out, hb.trans (by exact ⟨rfl, rfl, rfl, Nat.le_refl _, fun _ _ => rfl⟩)⟩
      cases hd : vaEq l[k].v l'[k].v
      · have HN : Hid (¬ l = l') := take_ne hlt hlt2 (fun h => va_no hd (congrArg _ h))
        go_wp2_with fail
        go_quiet (fail)
        go_wp2_with fail
        go_ret
        exact ⟨Says.no HN.out, hb.trans (by exact ⟨rfl, rfl, rfl, Nat.le_refl _, fun _ _ => rfl⟩)⟩
      · have HN : Hid (l.take (k + 1) = l'.take (k + 1)) := take_eq HA.out hlt hlt2 (by
          have h1 : l[k].nm = l'[k].nm := str_eq hn
          have h2 := va_yes hd
          cases hx : l[k] with | mk a1 a2 => cases hy : l'[k] with | mk b1 b2 => rw [hx, hy] at h1 h2; simp only at h1 h2; rw [h1, h2])
        go_wp2_with fail
        go_quiet (fail)
        go_wp2_with fail
        go_roundw
        case rel => exact ⟨k + 1, by omega, by go_num, hb.trans (by exact ⟨rfl, rfl, rfl, Nat.le_refl _, fun _ _ => rfl⟩), HN⟩
        case measure => simp [intOf]; omega
    · have HN : Hid (l = l') := by
        have h1 := HA.out
        have h2 := HLL.out
        rw [List.take_of_length_le (by omega), List.take_of_length_le (by omega)] at h1
        exact h1
      go_wp2_with fail
      go_ret
      exact ⟨Says.yes HN.out, hb⟩
set_option maxRecDepth 100000 in
theorem di_und : Try.prog.underlying 129 = some (.struct (Try.prog.fieldsOf 129)) := by kernel_rfl
theorem di_held : Try.prog.stoodInHeld 129 = false := by kernel_rfl
theorem di_guard : Try.prog.eqGuardType Try.prog.depth 129 = false := by kernel_rfl
theorem di_p0 (w : World) (s : Bool) (a b : Int) (t : ByteArray) : (part 4 #[.bool s, .int .i64 a, .int .i64 b, .string t] 0).run Try.prog w = .ok (.bool s) w := by kernel_rfl
theorem di_p1 (w : World) (s : Bool) (a b : Int) (t : ByteArray) : (part 91 #[.bool s, .int .i64 a, .int .i64 b, .string t] 1).run Try.prog w = .ok (.agg #[.int .i64 a, .int .i64 b, .string t]) w := by kernel_rfl
set_option maxRecDepth 100000 in
theorem di_neq (x y : Di) (w : World) : (binOp .neq 129 (.agg #[.bool x.sk, .int .i64 x.v.k, .int .i64 x.v.n, .string x.v.t]) (.agg #[.bool y.sk, .int .i64 y.v.k, .int .i64 y.v.n, .string y.v.t])).run Try.prog w = .ok (.bool (!((x.sk == y.sk) && vaEq x.v y.v))) w := by
  rw [run_neq_struct, run_equalIn_agg w _ _ _ _ di_und di_held]
  have hf : ∃ f0 f1 : Field, (Try.prog.fieldsOf 129).toList = [f0, f1] ∧ f0.name ≠ "_" ∧ f1.name ≠ "_" ∧ f0.type = 4 ∧ f0.offset = 0 ∧ f1.type = 91 ∧ f1.offset = 1 := by
    refine ⟨_, _, rfl, ?_, ?_, ?_, ?_, ?_, ?_⟩ <;> decide +kernel
  obtain ⟨f0, f1, hl, n0, n1, t0, o0, t1, o1⟩ := hf
  rw [hl]
  simp only [Op.eqFields, n0, n1, ne_eq, not_false_eq_true, if_true, t0, o0, t1, o1, Sem.run_bind, di_p0, Result.andThen_ok]
  rw [run_equalIn_bool' w _ _ _ _ Try.underlying4]
  simp only [Result.andThen_ok, Sem.run_ite]
  cases (x.sk == y.sk)
  · simp
  · simp only [Bool.not_true, Bool.false_eq_true, if_false, Sem.run_bind, di_p1, Result.andThen_ok]
    rw [va_equal]
    cases vaEq x.v y.v <;> simp
set_option maxHeartbeats 2000000 in
theorem same_di (a a' : Option Addr) (c c' : Nat) (l l' : List Di) (w : World) (hr : DiRow 0 w.heap.size w a l) (hr' : DiRow 0 w.heap.size w a' l') (hl : l.length ≤ 1048576) (hl' : l'.length ≤ 1048576) :
    Calls Try.prog 93 #[.slice a l.length c, .slice a' l'.length c'] w fun e w' => Says (l = l') e ∧ Below w.heap.size w w' := by
  by_cases hll : l.length = l'.length
  case neg =>
    have HN : Hid (¬ l = l') := fun h => hll (congrArg _ h)
    have h1 : ((l.length : Int) == (l'.length : Int)) = false := by rw [beq_eq_false_iff_ne]; omega
    have h2 : ((l.length : Int) != (l'.length : Int)) = true := by rw [bne, h1]; rfl
    go_enter Try.func93, Try.ntmps93
    go_wp2_with fail
    go_ret
    exact ⟨Says.no HN.out, Below.refl _ _⟩
  have HR : Hid (DiRow 0 w.heap.size w a l) := hr
  have HR' : Hid (DiRow 0 w.heap.size w a' l') := hr'
  have HLL : Hid (l.length = l'.length) := hll
  have hl2 : (l'.length : Int) = (l.length : Int) := by omega
  clear hr hr' hll
  rw [← HLL.out]
  go_enter Try.func93, Try.ntmps93
  go_wp2_with fail
  go_loopw [13] (fun i w' => ∃ (k : Nat), k ≤ l.length ∧ i = .int .i64 k ∧ Below w.heap.size w w' ∧ Hid (l.take k = l'.take k)) (fun i _ => l.length - (intOf i).toNat)
  case atStart => exact ⟨0, by omega, rfl, Below.refl _ _, rfl⟩
  case round =>
    obtain ⟨k, hk, rfl, hb, HA⟩ := hrel
    by_cases hlt : k < l.length
    · have hlt2 : k < l'.length := by have := HLL.out; omega
      have hlt3 : (k : Int) < l.length := by omega
      obtain ⟨b, o, ha, _, hbl, d0, d1, d2, d3⟩ := Row.cells_di (Row.keep HR.out (Below.agree hb (Nat.le_refl _))) k hlt
      obtain ⟨b', o', ha', _, hbl', f0, f1, f2, f3⟩ := Row.cells_di (Row.keep HR'.out (Below.agree hb (Nat.le_refl _))) k hlt2
      subst ha
      subst ha'
      have hneq := di_neq l[k] l'[k]
      have hgd := di_guard
      cases hn : (l[k].sk == l'[k].sk)
      · have HN : Hid (¬ l = l') := take_ne hlt hlt2 (fun h => (by rw [h] at hn; simp at hn))
        go_wp2_with fail
        go_quiet (fail)
        go_wp2_with fail
        go_ret
        exact ⟨Says.no HN.out, hb.trans (by exact ⟨rfl, rfl, rfl, Nat.le_refl _, fun _ _ => rfl⟩)⟩
      cases hd : vaEq l[k].v l'[k].v
      · have HN : Hid (¬ l = l') := take_ne hlt hlt2 (fun h => va_no hd (congrArg _ h))
        go_wp2_with fail
        go_quiet (fail)
        go_wp2_with fail
        go_ret
        exact ⟨Says.no HN.out, hb.trans (by exact ⟨rfl, rfl, rfl, Nat.le_refl _, fun _ _ => rfl⟩)⟩
      · have HN : Hid (l.take (k + 1) = l'.take (k + 1)) := take_eq HA.out hlt hlt2 (by
          have h1 : l[k].sk = l'[k].sk := (by simpa using hn)
          have h2 := va_yes hd
          cases hx : l[k] with | mk a1 a2 => cases hy : l'[k] with | mk b1 b2 => rw [hx, hy] at h1 h2; simp only at h1 h2; rw [h1, h2])
        go_wp2_with fail
        go_quiet (fail)
        go_wp2_with fail
        go_roundw
        case rel => exact ⟨k + 1, by omega, by go_num, hb.trans (by exact ⟨rfl, rfl, rfl, Nat.le_refl _, fun _ _ => rfl⟩), HN⟩
        case measure => simp [intOf]; omega
    · have HN : Hid (l = l') := by
        have h1 := HA.out
        have h2 := HLL.out
        rw [List.take_of_length_le (by omega), List.take_of_length_le (by omega)] at h1
        exact h1
      go_wp2_with fail
      go_ret
      exact ⟨Says.yes HN.out, hb⟩
end Go.Proofs.Ytiehcmdhfeeomaa
