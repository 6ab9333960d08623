/- Acts: what is right, both sides. -/
import Derived.Test.YtiehcmdhfeeomaaDocVal
import Derived.Test.YtiehcmdhfeeomaaGRegionSix
import Derived.Handy
import Derived.BigQuiet
import Derived.Deep.RegionWith
namespace Go.Proofs.Ytiehcmdhfeeomaa
open Go.ChangeShapes Go.WideShapes Go.ChangeAt Go.RowKit
open Go.Proofs.Ytiehcmdhfeeomaa.G
set_option linter.unusedVariables false

theorem noE : noB ⟨#[]⟩ = true := no_of (by rw [ByteArray.toList_eq])
theorem szE : (⟨#[]⟩ : ByteArray).size = 0 := rfl
theorem no_list {s : ByteArray} (h : s.toList = []) : s = ⟨#[]⟩ := by
  rw [ByteArray.toList_eq] at h
  obtain ⟨d⟩ := s
  simp at h
  rw [h]
def actB (k n : Int) (s : ByteArray) : Bool := decide (1 ≤ k ∧ k ≤ 4) && decide (0 ≤ n ∧ n ≤ 1000000) && decide (s.size ≤ 65536) && (k == 1 || noB s) && (k == 2 || k == 3 || n == 0)
theorem act_id (n : Int) (w : World) : Calls Try.prog 121 #[.int .i64 n] w fun e w' => e = .returned (.bool (decide (0 ≤ n) && decide (n ≤ 1000000))) ∧ w' = w := by
  by_cases h : 0 ≤ n
  · have H : Hid (decide (n ≤ 1000000) = (decide (0 ≤ n) && decide (n ≤ 1000000))) := by rw [Hid]; simp [h]
    go_enter Try.func121, Try.ntmps121
    go_wp2_with fail
    go_ret
    exact ⟨ret_bool H.out, rfl⟩
  · have H : Hid (false = (decide (0 ≤ n) && decide (n ≤ 1000000))) := by rw [Hid]; simp [h]
    go_enter Try.func121, Try.ntmps121
    go_wp2_with fail
    go_ret
    first | exact ⟨ret_bool H.out, rfl⟩ | exact ⟨rfl, rfl⟩
theorem deed_none (k n : Int) (s : ByteArray) (w : World) (h1 : (k == 1) = false) (h2 : (k == 2) = false) (h3 : (k == 3) = false) (h4 : (k == 4) = false) :
    Calls Try.prog 35 #[.agg #[.int .i64 k, .int .i64 n, .string s]] w fun e w' => e = .returned .nilIface ∧ Below w.heap.size w w' := by
  go_enter Try.func35, Try.ntmps35
  go_wp2_with fail
  go_ret
  exact ⟨rfl, (Below.refl _ _).alloc (Nat.le_refl _) _⟩
theorem deed_1 (n : Int) (s : ByteArray) (w : World) :
    Calls Try.prog 35 #[.agg #[.int .i64 1, .int .i64 n, .string s]] w fun e w' => e = .returned (.iface 98 (.agg #[.string s])) ∧ Below w.heap.size w w' := by
  go_enter Try.func35, Try.ntmps35
  go_wp2_with fail
  go_ret
  exact ⟨rfl, (Below.refl _ _).alloc (Nat.le_refl _) _⟩
theorem right_1 (n : Int) (s : ByteArray) (w : World) (hs : s.size ≤ maxLen) : Calls Try.prog 118 #[.agg #[.string s]] w fun e w' => e = .returned (.bool (decide (s.size ≤ 65536))) ∧ Below w.heap.size w w' := by
  by_cases h : s.size ≤ 65536
  · have h' : (s.size : Int) ≤ 65536 := by omega
    have H : Hid (true = decide (s.size ≤ 65536)) := by rw [Hid]; simp [h]
    go_enter Try.func118, Try.ntmps118
    go_wp2_with fail
    go_ret
    first | exact ⟨ret_bool H.out, (Below.refl _ _).alloc (Nat.le_refl _) _⟩ | exact ⟨rfl, (Below.refl _ _).alloc (Nat.le_refl _) _⟩
  · have h' : ¬ (s.size : Int) ≤ 65536 := by omega
    have H : Hid (false = decide (s.size ≤ 65536)) := by rw [Hid]; simp [h]
    go_enter Try.func118, Try.ntmps118
    go_wp2_with fail
    go_ret
    first | exact ⟨ret_bool H.out, (Below.refl _ _).alloc (Nat.le_refl _) _⟩ | exact ⟨rfl, (Below.refl _ _).alloc (Nat.le_refl _) _⟩
theorem act_1 (n : Int) (s : ByteArray) (w : World) : Calls Try.prog 117 #[.agg #[.string s]] w fun e w' => e = .returned (.agg #[.int .i64 1, .int .i64 0, .string s]) ∧ Below w.heap.size w w' := by
  go_enter Try.func117, Try.ntmps117
  go_wp2_with fail
  refine bodyPost_ret (v := .agg #[.int .i64 1, .int .i64 0, .string s]) (by simp [results, Try.results117, go_sem]) rfl ⟨rfl, ?_⟩
  repeat (first | exact Below.refl _ _ | refine Below.setCell ?_ (by first | omega | (simp <;> omega)) _ | refine Below.alloc ?_ (by first | omega | (simp <;> omega)) _)
theorem deed_2 (n : Int) (s : ByteArray) (w : World) :
    Calls Try.prog 35 #[.agg #[.int .i64 2, .int .i64 n, .string s]] w fun e w' => e = .returned (.iface 100 (.agg #[.int .i64 n])) ∧ Below w.heap.size w w' := by
  go_enter Try.func35, Try.ntmps35
  go_wp2_with fail
  go_ret
  exact ⟨rfl, (Below.refl _ _).alloc (Nat.le_refl _) _⟩
theorem right_2 (n : Int) (s : ByteArray) (w : World) (hs : s.size ≤ maxLen) : Calls Try.prog 120 #[.agg #[.int .i64 n]] w fun e w' => e = .returned (.bool (decide (0 ≤ n) && decide (n ≤ 1000000))) ∧ Below w.heap.size w w' := by
  go_enter Try.func120, Try.ntmps120
  go_wp2_with fail
  refine (act_id n _).mono ?_
  rintro e w1 ⟨rfl, rfl⟩
  go_wp2_with fail
  go_ret
  exact ⟨rfl, (Below.refl _ _).alloc (Nat.le_refl _) _⟩
theorem act_2 (n : Int) (s : ByteArray) (w : World) : Calls Try.prog 119 #[.agg #[.int .i64 n]] w fun e w' => e = .returned (.agg #[.int .i64 2, .int .i64 n, .string ⟨#[]⟩]) ∧ Below w.heap.size w w' := by
  go_enter Try.func119, Try.ntmps119
  go_wp2_with fail
  refine bodyPost_ret (v := .agg #[.int .i64 2, .int .i64 n, .string ⟨#[]⟩]) (by simp [results, Try.results119, go_sem]) rfl ⟨rfl, ?_⟩
  repeat (first | exact Below.refl _ _ | refine Below.setCell ?_ (by first | omega | (simp <;> omega)) _ | refine Below.alloc ?_ (by first | omega | (simp <;> omega)) _)
theorem deed_3 (n : Int) (s : ByteArray) (w : World) :
    Calls Try.prog 35 #[.agg #[.int .i64 3, .int .i64 n, .string s]] w fun e w' => e = .returned (.iface 101 (.agg #[.int .i64 n])) ∧ Below w.heap.size w w' := by
  go_enter Try.func35, Try.ntmps35
  go_wp2_with fail
  go_ret
  exact ⟨rfl, (Below.refl _ _).alloc (Nat.le_refl _) _⟩
theorem right_3 (n : Int) (s : ByteArray) (w : World) (hs : s.size ≤ maxLen) : Calls Try.prog 123 #[.agg #[.int .i64 n]] w fun e w' => e = .returned (.bool (decide (0 ≤ n) && decide (n ≤ 1000000))) ∧ Below w.heap.size w w' := by
  go_enter Try.func123, Try.ntmps123
  go_wp2_with fail
  refine (act_id n _).mono ?_
  rintro e w1 ⟨rfl, rfl⟩
  go_wp2_with fail
  go_ret
  exact ⟨rfl, (Below.refl _ _).alloc (Nat.le_refl _) _⟩
theorem act_3 (n : Int) (s : ByteArray) (w : World) : Calls Try.prog 122 #[.agg #[.int .i64 n]] w fun e w' => e = .returned (.agg #[.int .i64 3, .int .i64 n, .string ⟨#[]⟩]) ∧ Below w.heap.size w w' := by
  go_enter Try.func122, Try.ntmps122
  go_wp2_with fail
  refine bodyPost_ret (v := .agg #[.int .i64 3, .int .i64 n, .string ⟨#[]⟩]) (by simp [results, Try.results122, go_sem]) rfl ⟨rfl, ?_⟩
  repeat (first | exact Below.refl _ _ | refine Below.setCell ?_ (by first | omega | (simp <;> omega)) _ | refine Below.alloc ?_ (by first | omega | (simp <;> omega)) _)
theorem deed_4 (n : Int) (s : ByteArray) (w : World) :
    Calls Try.prog 35 #[.agg #[.int .i64 4, .int .i64 n, .string s]] w fun e w' => e = .returned (.iface 103 (.agg #[])) ∧ Below w.heap.size w w' := by
  go_enter Try.func35, Try.ntmps35
  go_wp2_with fail
  go_ret
  exact ⟨rfl, (Below.refl _ _).alloc (Nat.le_refl _) _⟩
theorem right_4 (n : Int) (s : ByteArray) (w : World) (hs : s.size ≤ maxLen) : Calls Try.prog 125 #[.agg #[]] w fun e w' => e = .returned (.bool (true)) ∧ Below w.heap.size w w' := by
  go_enter Try.func125, Try.ntmps125
  go_wp2_with fail
  go_ret
  exact ⟨rfl, (Below.refl _ _).alloc (Nat.le_refl _) _⟩
theorem act_4 (n : Int) (s : ByteArray) (w : World) : Calls Try.prog 124 #[.agg #[]] w fun e w' => e = .returned (.agg #[.int .i64 4, .int .i64 0, .string ⟨#[]⟩]) ∧ Below w.heap.size w w' := by
  go_enter Try.func124, Try.ntmps124
  go_wp2_with fail
  refine bodyPost_ret (v := .agg #[.int .i64 4, .int .i64 0, .string ⟨#[]⟩]) (by simp [results, Try.results124, go_sem]) rfl ⟨rfl, ?_⟩
  repeat (first | exact Below.refl _ _ | refine Below.setCell ?_ (by first | omega | (simp <;> omega)) _ | refine Below.alloc ?_ (by first | omega | (simp <;> omega)) _)
def AcPv (IF av A : Value) (rb eqb : Bool) (iz : Nat) (v : Value) (W : World) : Prop := match iz with
  | 0 => v = IF
  | 1 => v = .bool true
  | 2 => v = .bool true
  | 3 => v = IF
  | 4 => v = .bool rb
  | 5 => v = .bool rb
  | 6 => v = .bool rb
  | 7 => rb = true → v = IF
  | 8 => rb = true → v = av
  | 9 => rb = true → v = A
  | 10 => rb = true → v = .bool eqb
  | 11 => v = .bool (rb && eqb)
  | 12 => v = .bool (rb && eqb)
  | _ => True
set_option maxHeartbeats 4000000 in
set_option maxRecDepth 40000 in
theorem impl_act_1 (n : Int) (s : ByteArray) (w : World) (hs : s.size ≤ maxLen) :
    Calls Try.prog 19 #[.agg #[.int .i64 1, .int .i64 n, .string s]] w fun e w' => e = .returned (.bool (actB 1 n s)) ∧ Below w.heap.size w w' := by
  by_cases h3 : n = 0
  · subst h3
    obtain ⟨rb, hrb⟩ : ∃ b, b = (decide (s.size ≤ 65536)) := ⟨_, rfl⟩
    have HR : Hid ((decide (s.size ≤ 65536)) = rb) := hrb.symm
    have H : Hid ((rb && true) = actB 1 0 s) := by subst hrb; rw [Hid]; simp [actB]
    clear hrb
    go_enter Try.func19, Try.ntmps19
    go_wp2_with fail
    refine (deed_1 0 s _).mono ?_
    rintro e w1 ⟨rfl, b1⟩
    obtain ⟨hc1, hf1⟩ := bcell b1
    have hz1 : w.heap.size + 1 ≤ w1.heap.size := by have := b1.size; simpa using this
    have hy1 : w.heap.size < w1.heap.size := by omega
    have Q1 : Hid (Below w.heap.size w w1) := ((Below.refl _ _).alloc (Nat.le_refl _) _).trans (b1.mono (by simp))
    clear b1
    go_wp2_with fail
    refine region_rel6 (n := 13) (by kernel_rfl) (by kernel_rfl) (by rfl) (fun r => ⟨#[(.agg #[.int .i64 1, .int .i64 0, .string s]), (.pointer (some ⟨w.heap.size, 0, none⟩)), (r 2), (.iface 98 (.agg #[.string s])), (.agg #[.int .i64 1, .int .i64 0, .string s]), (.iface 98 (.agg #[.string s])), (r 6), (r 7), (r 8), (r 9), (r 10), (r 11), (r 12), (r 13), (r 14), (r 15), (r 16), (r 17)], []⟩) (fun nz => match nz with | 2 => .bool false | _ => undef) (fun iz => [6, 7, 8, 9, 10, 11, 12, 13, 14, 15, 16, 17, 2].getD iz 0) (fun iz jz hi hj h => (by decide : ∀ i, i < 13 → ∀ j, j < 13 → [6, 7, 8, 9, 10, 11, 12, 13, 14, 15, 16, 17, 2].getD i 0 = [6, 7, 8, 9, 10, 11, 12, 13, 14, 15, 16, 17, 2].getD j 0 → i = j) iz hi jz hj h)
      (AcPv (.iface 98 (.agg #[.string s])) (.agg #[.int .i64 1, .int .i64 0, .string s]) (.agg #[.int .i64 1, .int .i64 0, .string s]) rb true) (fun _ _ W => Below w1.heap.size w1 W) (Below.refl _ _).drew ?step ?last
    case step =>
      intro D r W iq hiq hLs hLi hj hdep
      have hx : ∀ o, W.cell? ⟨w.heap.size, o, none⟩ = w1.cell? ⟨w.heap.size, o, none⟩ := fun o => hj.cell hy1
      have hcase : iq = 0 ∨ iq = 1 ∨ iq = 2 ∨ iq = 3 ∨ iq = 4 ∨ iq = 5 ∨ iq = 6 ∨ iq = 7 ∨ iq = 8 ∨ iq = 9 ∨ iq = 10 ∨ iq = 11 ∨ iq = 12 := by omega
      clear hiq
      rcases hcase with rfl | rfl | rfl | rfl | rfl | rfl | rfl | rfl | rfl | rfl | rfl | rfl | rfl
      · clear hdep
        refine wpOp_step rfl (fun K hK => ?_)
        go_simp
        exact hK _ _ ⟨.iface 98 (.agg #[.string s]), by simp [upd], (fun _ _ h => h), rfl, hj⟩
      · have d0 : r 6 = .iface 98 (.agg #[.string s]) := (hdep _ rfl ⟨0, .data⟩ (by simp) rfl).2
        clear hdep
        refine wpOp_step rfl (fun K hK => ?_)
        go_simp
        exact hK _ _ ⟨.bool true, by simp [upd, d0], (fun _ _ h => h), rfl, hj⟩
      · have d1 : r 7 = .bool true := (hdep _ rfl ⟨1, .data⟩ (by simp) rfl).2
        clear hdep
        refine wpOp_step rfl (fun K hK => ?_)
        go_simp
        exact hK _ _ ⟨.bool true, by simp [upd, d1], (fun _ _ h => h), rfl, hj⟩
      · have d2 : r 8 = .bool true := (hdep _ rfl ⟨2, .guard⟩ (by simp) rfl).2
        clear hdep
        refine wpOp_step rfl (fun K hK => ?_)
        go_simp
        exact hK _ _ ⟨.iface 98 (.agg #[.string s]), by simp [upd, d2], (fun _ _ h => h), rfl, hj⟩
      · have d2 : r 8 = .bool true := (hdep _ rfl ⟨2, .guard⟩ (by simp) rfl).2
        have d3 : r 9 = .iface 98 (.agg #[.string s]) := (hdep _ rfl ⟨3, .data⟩ (by simp) rfl).2
        have HJ : Hid _ := hj
        clear hdep
        refine wpOp_step rfl (fun K hK => ?_)
        go_simp
        refine Calls.mono (right_1 0 s _ hs) ?_
        rintro e W2 ⟨he, b2⟩
        rw [HR.out] at he
        subst he
        exact hK _ _ ⟨.bool rb, by simp [upd, d2, d3, Act.put], fun _ _ h => h, rfl, HJ.out.trans (b2.mono HJ.out.size)⟩
      · have d2 : r 8 = .bool true := (hdep _ rfl ⟨2, .data⟩ (by simp) rfl).2
        have d4 : r 10 = .bool rb := (hdep _ rfl ⟨4, .data⟩ (by simp) rfl).2
        clear hdep
        refine wpOp_step rfl (fun K hK => ?_)
        go_simp
        exact hK _ _ ⟨.bool rb, by simp [upd, d2, d4], (fun _ _ h => h), rfl, hj⟩
      · have d5 : r 11 = .bool rb := (hdep _ rfl ⟨5, .data⟩ (by simp) rfl).2
        clear hdep
        refine wpOp_step rfl (fun K hK => ?_)
        go_simp
        exact hK _ _ ⟨.bool rb, by simp [upd, d5], (fun _ _ h => h), rfl, hj⟩
      · have d6 : r 12 = .bool rb := (hdep _ rfl ⟨6, .guard⟩ (by simp) rfl).2
        cases rb with
        | false =>
          clear hdep
          refine wpOp_step rfl (fun K hK => ?_)
          go_simp
          exact hK _ _ ⟨undef, by simp [upd, d6], (fun _ _ h => h), (fun e => by cases e), hj⟩
        | true =>
          clear hdep
          refine wpOp_step rfl (fun K hK => ?_)
          go_simp
          exact hK _ _ ⟨.iface 98 (.agg #[.string s]), by simp [upd, d6], (fun _ _ h => h), (fun _ => rfl), hj⟩
      · have d6 : r 12 = .bool rb := (hdep _ rfl ⟨6, .guard⟩ (by simp) rfl).2
        have d7 : rb = true → r 13 = .iface 98 (.agg #[.string s]) := (hdep _ rfl ⟨7, .data⟩ (by simp) rfl).2
        have HJ : Hid _ := hj
        cases rb with
        | false =>
          clear hdep
          refine wpOp_step rfl (fun K hK => ?_)
          go_simp
          exact hK _ _ ⟨undef, by simp [upd, d6], (fun _ _ h => h), (fun e => by cases e), hj⟩
        | true =>
          have d7 := d7 rfl
          clear hdep
          refine wpOp_step rfl (fun K hK => ?_)
          go_simp
          refine Calls.mono (act_1 0 s _) ?_
          rintro e W2 ⟨rfl, b2⟩
          exact hK _ _ ⟨.agg #[.int .i64 1, .int .i64 0, .string s], by simp [upd, d6, d7, Act.put], fun _ _ h => h, fun _ => rfl, HJ.out.trans (b2.mono HJ.out.size)⟩
      · have d6 : r 12 = .bool rb := (hdep _ rfl ⟨6, .guard⟩ (by simp) rfl).2
        cases rb with
        | false =>
          clear hdep
          refine wpOp_step rfl (fun K hK => ?_)
          go_simp
          exact hK _ _ ⟨undef, by simp [upd, d6], (fun _ _ h => h), (fun e => by cases e), hj⟩
        | true =>
          have x0 := hx 0
          have x1 := hx 1
          have x2 := hx 2
          rw [hc1 _ _ (by simp)] at x0 x1 x2
          clear hdep
          refine wpOp_step rfl (fun K hK => ?_)
          go_simp
          exact hK _ _ ⟨.agg #[.int .i64 1, .int .i64 0, .string s], by simp [upd, d6], (fun _ _ h => h), (fun _ => rfl), hj⟩
      · have d6 : r 12 = .bool rb := (hdep _ rfl ⟨6, .guard⟩ (by simp) rfl).2
        have d8 : rb = true → r 14 = .agg #[.int .i64 1, .int .i64 0, .string s] := (hdep _ rfl ⟨8, .data⟩ (by simp) rfl).2
        have d9 : rb = true → r 15 = .agg #[.int .i64 1, .int .i64 0, .string s] := (hdep _ rfl ⟨9, .data⟩ (by simp) rfl).2
        cases rb with
        | false =>
          clear hdep
          refine wpOp_step rfl (fun K hK => ?_)
          go_simp
          exact hK _ _ ⟨undef, by simp [upd, d6], (fun _ _ h => h), (fun e => by cases e), hj⟩
        | true =>
          have d8 := d8 rfl
          have d9 := d9 rfl
          clear hdep
          refine wpOp_step rfl (fun K hK => ?_)
          go_simp
          exact hK _ _ ⟨.bool true, by simp [upd, d6, d8, d9], (fun _ _ h => h), (fun _ => rfl), hj⟩
      · have d6 : r 12 = .bool rb := (hdep _ rfl ⟨6, .data⟩ (by simp) rfl).2
        have d10 : rb = true → r 16 = .bool true := (hdep _ rfl ⟨10, .data⟩ (by simp) rfl).2
        cases rb with
        | false =>
          clear hdep
          refine wpOp_step rfl (fun K hK => ?_)
          go_simp
          exact hK _ _ ⟨.bool false, by simp [upd, d6], (fun _ _ h => h), rfl, hj⟩
        | true =>
          have d10 := d10 rfl
          clear hdep
          refine wpOp_step rfl (fun K hK => ?_)
          go_simp
          exact hK _ _ ⟨.bool true, by simp [upd, d6, d10], (fun _ _ h => h), rfl, hj⟩
      · have d11 : r 17 = .bool (rb && true) := (hdep _ rfl ⟨11, .data⟩ (by simp) rfl).2
        clear hdep
        refine wpOp_step rfl (fun K hK => ?_)
        go_simp
        exact hK _ _ ⟨.bool (rb && true), by simp [upd, d11], (fun _ _ h => h), rfl, hj⟩
    case last =>
      intro D r W hLs hD hj hp
      have d12 : r 2 = .bool (rb && true) := hp 12 (by omega)
      have HE : Hid (Below w.heap.size w W) := Q1.out.trans (hj.mono Q1.out.size)
      clear hp hj
      go_wp2_with fail
      go_ret
      first | exact ⟨ret_bool H.out, HE.out⟩ | exact ⟨by rw [← H.out]; exact congrArg Ending.returned d12, HE.out⟩
  · have h4 : ¬ (0 : Int) = n := by omega
    have h5 : ((0 : Int) == n) = false := by rw [beq_eq_false_iff_ne]; exact h4
    obtain ⟨rb, hrb⟩ : ∃ b, b = (decide (s.size ≤ 65536)) := ⟨_, rfl⟩
    have HR : Hid ((decide (s.size ≤ 65536)) = rb) := hrb.symm
    have H : Hid ((rb && false) = actB 1 n s) := by subst hrb; rw [Hid]; simp [actB, h3]
    clear hrb
    go_enter Try.func19, Try.ntmps19
    go_wp2_with fail
    refine (deed_1 n s _).mono ?_
    rintro e w1 ⟨rfl, b1⟩
    obtain ⟨hc1, hf1⟩ := bcell b1
    have hz1 : w.heap.size + 1 ≤ w1.heap.size := by have := b1.size; simpa using this
    have hy1 : w.heap.size < w1.heap.size := by omega
    have Q1 : Hid (Below w.heap.size w w1) := ((Below.refl _ _).alloc (Nat.le_refl _) _).trans (b1.mono (by simp))
    clear b1
    go_wp2_with fail
    refine region_rel6 (n := 13) (by kernel_rfl) (by kernel_rfl) (by rfl) (fun r => ⟨#[(.agg #[.int .i64 1, .int .i64 n, .string s]), (.pointer (some ⟨w.heap.size, 0, none⟩)), (r 2), (.iface 98 (.agg #[.string s])), (.agg #[.int .i64 1, .int .i64 n, .string s]), (.iface 98 (.agg #[.string s])), (r 6), (r 7), (r 8), (r 9), (r 10), (r 11), (r 12), (r 13), (r 14), (r 15), (r 16), (r 17)], []⟩) (fun nz => match nz with | 2 => .bool false | _ => undef) (fun iz => [6, 7, 8, 9, 10, 11, 12, 13, 14, 15, 16, 17, 2].getD iz 0) (fun iz jz hi hj h => (by decide : ∀ i, i < 13 → ∀ j, j < 13 → [6, 7, 8, 9, 10, 11, 12, 13, 14, 15, 16, 17, 2].getD i 0 = [6, 7, 8, 9, 10, 11, 12, 13, 14, 15, 16, 17, 2].getD j 0 → i = j) iz hi jz hj h)
      (AcPv (.iface 98 (.agg #[.string s])) (.agg #[.int .i64 1, .int .i64 0, .string s]) (.agg #[.int .i64 1, .int .i64 n, .string s]) rb false) (fun _ _ W => Below w1.heap.size w1 W) (Below.refl _ _).drew ?step ?last
    case step =>
      intro D r W iq hiq hLs hLi hj hdep
      have hx : ∀ o, W.cell? ⟨w.heap.size, o, none⟩ = w1.cell? ⟨w.heap.size, o, none⟩ := fun o => hj.cell hy1
      have hcase : iq = 0 ∨ iq = 1 ∨ iq = 2 ∨ iq = 3 ∨ iq = 4 ∨ iq = 5 ∨ iq = 6 ∨ iq = 7 ∨ iq = 8 ∨ iq = 9 ∨ iq = 10 ∨ iq = 11 ∨ iq = 12 := by omega
      clear hiq
      rcases hcase with rfl | rfl | rfl | rfl | rfl | rfl | rfl | rfl | rfl | rfl | rfl | rfl | rfl
      · clear hdep
        refine wpOp_step rfl (fun K hK => ?_)
        go_simp
        exact hK _ _ ⟨.iface 98 (.agg #[.string s]), by simp [upd], (fun _ _ h => h), rfl, hj⟩
      · have d0 : r 6 = .iface 98 (.agg #[.string s]) := (hdep _ rfl ⟨0, .data⟩ (by simp) rfl).2
        clear hdep
        refine wpOp_step rfl (fun K hK => ?_)
        go_simp
        exact hK _ _ ⟨.bool true, by simp [upd, d0], (fun _ _ h => h), rfl, hj⟩
      · have d1 : r 7 = .bool true := (hdep _ rfl ⟨1, .data⟩ (by simp) rfl).2
        clear hdep
        refine wpOp_step rfl (fun K hK => ?_)
        go_simp
        exact hK _ _ ⟨.bool true, by simp [upd, d1], (fun _ _ h => h), rfl, hj⟩
      · have d2 : r 8 = .bool true := (hdep _ rfl ⟨2, .guard⟩ (by simp) rfl).2
        clear hdep
        refine wpOp_step rfl (fun K hK => ?_)
        go_simp
        exact hK _ _ ⟨.iface 98 (.agg #[.string s]), by simp [upd, d2], (fun _ _ h => h), rfl, hj⟩
      · have d2 : r 8 = .bool true := (hdep _ rfl ⟨2, .guard⟩ (by simp) rfl).2
        have d3 : r 9 = .iface 98 (.agg #[.string s]) := (hdep _ rfl ⟨3, .data⟩ (by simp) rfl).2
        have HJ : Hid _ := hj
        clear hdep
        refine wpOp_step rfl (fun K hK => ?_)
        go_simp
        refine Calls.mono (right_1 n s _ hs) ?_
        rintro e W2 ⟨he, b2⟩
        rw [HR.out] at he
        subst he
        exact hK _ _ ⟨.bool rb, by simp [upd, d2, d3, Act.put], fun _ _ h => h, rfl, HJ.out.trans (b2.mono HJ.out.size)⟩
      · have d2 : r 8 = .bool true := (hdep _ rfl ⟨2, .data⟩ (by simp) rfl).2
        have d4 : r 10 = .bool rb := (hdep _ rfl ⟨4, .data⟩ (by simp) rfl).2
        clear hdep
        refine wpOp_step rfl (fun K hK => ?_)
        go_simp
        exact hK _ _ ⟨.bool rb, by simp [upd, d2, d4], (fun _ _ h => h), rfl, hj⟩
      · have d5 : r 11 = .bool rb := (hdep _ rfl ⟨5, .data⟩ (by simp) rfl).2
        clear hdep
        refine wpOp_step rfl (fun K hK => ?_)
        go_simp
        exact hK _ _ ⟨.bool rb, by simp [upd, d5], (fun _ _ h => h), rfl, hj⟩
      · have d6 : r 12 = .bool rb := (hdep _ rfl ⟨6, .guard⟩ (by simp) rfl).2
        cases rb with
        | false =>
          clear hdep
          refine wpOp_step rfl (fun K hK => ?_)
          go_simp
          exact hK _ _ ⟨undef, by simp [upd, d6], (fun _ _ h => h), (fun e => by cases e), hj⟩
        | true =>
          clear hdep
          refine wpOp_step rfl (fun K hK => ?_)
          go_simp
          exact hK _ _ ⟨.iface 98 (.agg #[.string s]), by simp [upd, d6], (fun _ _ h => h), (fun _ => rfl), hj⟩
      · have d6 : r 12 = .bool rb := (hdep _ rfl ⟨6, .guard⟩ (by simp) rfl).2
        have d7 : rb = true → r 13 = .iface 98 (.agg #[.string s]) := (hdep _ rfl ⟨7, .data⟩ (by simp) rfl).2
        have HJ : Hid _ := hj
        cases rb with
        | false =>
          clear hdep
          refine wpOp_step rfl (fun K hK => ?_)
          go_simp
          exact hK _ _ ⟨undef, by simp [upd, d6], (fun _ _ h => h), (fun e => by cases e), hj⟩
        | true =>
          have d7 := d7 rfl
          clear hdep
          refine wpOp_step rfl (fun K hK => ?_)
          go_simp
          refine Calls.mono (act_1 n s _) ?_
          rintro e W2 ⟨rfl, b2⟩
          exact hK _ _ ⟨.agg #[.int .i64 1, .int .i64 0, .string s], by simp [upd, d6, d7, Act.put], fun _ _ h => h, fun _ => rfl, HJ.out.trans (b2.mono HJ.out.size)⟩
      · have d6 : r 12 = .bool rb := (hdep _ rfl ⟨6, .guard⟩ (by simp) rfl).2
        cases rb with
        | false =>
          clear hdep
          refine wpOp_step rfl (fun K hK => ?_)
          go_simp
          exact hK _ _ ⟨undef, by simp [upd, d6], (fun _ _ h => h), (fun e => by cases e), hj⟩
        | true =>
          have x0 := hx 0
          have x1 := hx 1
          have x2 := hx 2
          rw [hc1 _ _ (by simp)] at x0 x1 x2
          clear hdep
          refine wpOp_step rfl (fun K hK => ?_)
          go_simp
          exact hK _ _ ⟨.agg #[.int .i64 1, .int .i64 n, .string s], by simp [upd, d6], (fun _ _ h => h), (fun _ => rfl), hj⟩
      · have d6 : r 12 = .bool rb := (hdep _ rfl ⟨6, .guard⟩ (by simp) rfl).2
        have d8 : rb = true → r 14 = .agg #[.int .i64 1, .int .i64 0, .string s] := (hdep _ rfl ⟨8, .data⟩ (by simp) rfl).2
        have d9 : rb = true → r 15 = .agg #[.int .i64 1, .int .i64 n, .string s] := (hdep _ rfl ⟨9, .data⟩ (by simp) rfl).2
        cases rb with
        | false =>
          clear hdep
          refine wpOp_step rfl (fun K hK => ?_)
          go_simp
          exact hK _ _ ⟨undef, by simp [upd, d6], (fun _ _ h => h), (fun e => by cases e), hj⟩
        | true =>
          have d8 := d8 rfl
          have d9 := d9 rfl
          clear hdep
          refine wpOp_step rfl (fun K hK => ?_)
          go_simp
          exact hK _ _ ⟨.bool false, by simp [upd, d6, d8, d9], (fun _ _ h => h), (fun _ => rfl), hj⟩
      · have d6 : r 12 = .bool rb := (hdep _ rfl ⟨6, .data⟩ (by simp) rfl).2
        have d10 : rb = true → r 16 = .bool false := (hdep _ rfl ⟨10, .data⟩ (by simp) rfl).2
        cases rb with
        | false =>
          clear hdep
          refine wpOp_step rfl (fun K hK => ?_)
          go_simp
          exact hK _ _ ⟨.bool false, by simp [upd, d6], (fun _ _ h => h), rfl, hj⟩
        | true =>
          have d10 := d10 rfl
          clear hdep
          refine wpOp_step rfl (fun K hK => ?_)
          go_simp
          exact hK _ _ ⟨.bool false, by simp [upd, d6, d10], (fun _ _ h => h), rfl, hj⟩
      · have d11 : r 17 = .bool (rb && false) := (hdep _ rfl ⟨11, .data⟩ (by simp) rfl).2
        clear hdep
        refine wpOp_step rfl (fun K hK => ?_)
        go_simp
        exact hK _ _ ⟨.bool (rb && false), by simp [upd, d11], (fun _ _ h => h), rfl, hj⟩
    case last =>
      intro D r W hLs hD hj hp
      have d12 : r 2 = .bool (rb && false) := hp 12 (by omega)
      have HE : Hid (Below w.heap.size w W) := Q1.out.trans (hj.mono Q1.out.size)
      clear hp hj
      go_wp2_with fail
      go_ret
      first | exact ⟨ret_bool H.out, HE.out⟩ | exact ⟨by rw [← H.out]; exact congrArg Ending.returned d12, HE.out⟩
set_option maxHeartbeats 4000000 in
set_option maxRecDepth 40000 in
theorem impl_act_2 (n : Int) (s : ByteArray) (w : World) (hs : s.size ≤ maxLen) :
    Calls Try.prog 19 #[.agg #[.int .i64 2, .int .i64 n, .string s]] w fun e w' => e = .returned (.bool (actB 2 n s)) ∧ Below w.heap.size w w' := by
  by_cases h3 : s = ⟨#[]⟩
  · subst h3
    obtain ⟨rb, hrb⟩ : ∃ b, b = (decide (0 ≤ n) && decide (n ≤ 1000000)) := ⟨_, rfl⟩
    have HR : Hid ((decide (0 ≤ n) && decide (n ≤ 1000000)) = rb) := hrb.symm
    have H : Hid ((rb && true) = actB 2 n ⟨#[]⟩) := by subst hrb; rw [Hid]; simp [actB, noE, szE]
    clear hrb
    go_enter Try.func19, Try.ntmps19
    go_wp2_with fail
    refine (deed_2 n ⟨#[]⟩ _).mono ?_
    rintro e w1 ⟨rfl, b1⟩
    obtain ⟨hc1, hf1⟩ := bcell b1
    have hz1 : w.heap.size + 1 ≤ w1.heap.size := by have := b1.size; simpa using this
    have hy1 : w.heap.size < w1.heap.size := by omega
    have Q1 : Hid (Below w.heap.size w w1) := ((Below.refl _ _).alloc (Nat.le_refl _) _).trans (b1.mono (by simp))
    clear b1
    go_wp2_with fail
    refine region_rel6 (n := 13) (by kernel_rfl) (by kernel_rfl) (by rfl) (fun r => ⟨#[(.agg #[.int .i64 2, .int .i64 n, .string ⟨#[]⟩]), (.pointer (some ⟨w.heap.size, 0, none⟩)), (r 2), (.iface 100 (.agg #[.int .i64 n])), (.agg #[.int .i64 2, .int .i64 n, .string ⟨#[]⟩]), (.iface 100 (.agg #[.int .i64 n])), (r 6), (r 7), (r 8), (r 9), (r 10), (r 11), (r 12), (r 13), (r 14), (r 15), (r 16), (r 17)], []⟩) (fun nz => match nz with | 2 => .bool false | _ => undef) (fun iz => [6, 7, 8, 9, 10, 11, 12, 13, 14, 15, 16, 17, 2].getD iz 0) (fun iz jz hi hj h => (by decide : ∀ i, i < 13 → ∀ j, j < 13 → [6, 7, 8, 9, 10, 11, 12, 13, 14, 15, 16, 17, 2].getD i 0 = [6, 7, 8, 9, 10, 11, 12, 13, 14, 15, 16, 17, 2].getD j 0 → i = j) iz hi jz hj h)
      (AcPv (.iface 100 (.agg #[.int .i64 n])) (.agg #[.int .i64 2, .int .i64 n, .string ⟨#[]⟩]) (.agg #[.int .i64 2, .int .i64 n, .string ⟨#[]⟩]) rb true) (fun _ _ W => Below w1.heap.size w1 W) (Below.refl _ _).drew ?step ?last
    case step =>
      intro D r W iq hiq hLs hLi hj hdep
      have hx : ∀ o, W.cell? ⟨w.heap.size, o, none⟩ = w1.cell? ⟨w.heap.size, o, none⟩ := fun o => hj.cell hy1
      have hcase : iq = 0 ∨ iq = 1 ∨ iq = 2 ∨ iq = 3 ∨ iq = 4 ∨ iq = 5 ∨ iq = 6 ∨ iq = 7 ∨ iq = 8 ∨ iq = 9 ∨ iq = 10 ∨ iq = 11 ∨ iq = 12 := by omega
      clear hiq
      rcases hcase with rfl | rfl | rfl | rfl | rfl | rfl | rfl | rfl | rfl | rfl | rfl | rfl | rfl
      · clear hdep
        refine wpOp_step rfl (fun K hK => ?_)
        go_simp
        exact hK _ _ ⟨.iface 100 (.agg #[.int .i64 n]), by simp [upd], (fun _ _ h => h), rfl, hj⟩
      · have d0 : r 6 = .iface 100 (.agg #[.int .i64 n]) := (hdep _ rfl ⟨0, .data⟩ (by simp) rfl).2
        clear hdep
        refine wpOp_step rfl (fun K hK => ?_)
        go_simp
        exact hK _ _ ⟨.bool true, by simp [upd, d0], (fun _ _ h => h), rfl, hj⟩
      · have d1 : r 7 = .bool true := (hdep _ rfl ⟨1, .data⟩ (by simp) rfl).2
        clear hdep
        refine wpOp_step rfl (fun K hK => ?_)
        go_simp
        exact hK _ _ ⟨.bool true, by simp [upd, d1], (fun _ _ h => h), rfl, hj⟩
      · have d2 : r 8 = .bool true := (hdep _ rfl ⟨2, .guard⟩ (by simp) rfl).2
        clear hdep
        refine wpOp_step rfl (fun K hK => ?_)
        go_simp
        exact hK _ _ ⟨.iface 100 (.agg #[.int .i64 n]), by simp [upd, d2], (fun _ _ h => h), rfl, hj⟩
      · have d2 : r 8 = .bool true := (hdep _ rfl ⟨2, .guard⟩ (by simp) rfl).2
        have d3 : r 9 = .iface 100 (.agg #[.int .i64 n]) := (hdep _ rfl ⟨3, .data⟩ (by simp) rfl).2
        have HJ : Hid _ := hj
        clear hdep
        refine wpOp_step rfl (fun K hK => ?_)
        go_simp
        refine Calls.mono (right_2 n ⟨#[]⟩ _ hs) ?_
        rintro e W2 ⟨he, b2⟩
        rw [HR.out] at he
        subst he
        exact hK _ _ ⟨.bool rb, by simp [upd, d2, d3, Act.put], fun _ _ h => h, rfl, HJ.out.trans (b2.mono HJ.out.size)⟩
      · have d2 : r 8 = .bool true := (hdep _ rfl ⟨2, .data⟩ (by simp) rfl).2
        have d4 : r 10 = .bool rb := (hdep _ rfl ⟨4, .data⟩ (by simp) rfl).2
        clear hdep
        refine wpOp_step rfl (fun K hK => ?_)
        go_simp
        exact hK _ _ ⟨.bool rb, by simp [upd, d2, d4], (fun _ _ h => h), rfl, hj⟩
      · have d5 : r 11 = .bool rb := (hdep _ rfl ⟨5, .data⟩ (by simp) rfl).2
        clear hdep
        refine wpOp_step rfl (fun K hK => ?_)
        go_simp
        exact hK _ _ ⟨.bool rb, by simp [upd, d5], (fun _ _ h => h), rfl, hj⟩
      · have d6 : r 12 = .bool rb := (hdep _ rfl ⟨6, .guard⟩ (by simp) rfl).2
        cases rb with
        | false =>
          clear hdep
          refine wpOp_step rfl (fun K hK => ?_)
          go_simp
          exact hK _ _ ⟨undef, by simp [upd, d6], (fun _ _ h => h), (fun e => by cases e), hj⟩
        | true =>
          clear hdep
          refine wpOp_step rfl (fun K hK => ?_)
          go_simp
          exact hK _ _ ⟨.iface 100 (.agg #[.int .i64 n]), by simp [upd, d6], (fun _ _ h => h), (fun _ => rfl), hj⟩
      · have d6 : r 12 = .bool rb := (hdep _ rfl ⟨6, .guard⟩ (by simp) rfl).2
        have d7 : rb = true → r 13 = .iface 100 (.agg #[.int .i64 n]) := (hdep _ rfl ⟨7, .data⟩ (by simp) rfl).2
        have HJ : Hid _ := hj
        cases rb with
        | false =>
          clear hdep
          refine wpOp_step rfl (fun K hK => ?_)
          go_simp
          exact hK _ _ ⟨undef, by simp [upd, d6], (fun _ _ h => h), (fun e => by cases e), hj⟩
        | true =>
          have d7 := d7 rfl
          clear hdep
          refine wpOp_step rfl (fun K hK => ?_)
          go_simp
          refine Calls.mono (act_2 n ⟨#[]⟩ _) ?_
          rintro e W2 ⟨rfl, b2⟩
          exact hK _ _ ⟨.agg #[.int .i64 2, .int .i64 n, .string ⟨#[]⟩], by simp [upd, d6, d7, Act.put], fun _ _ h => h, fun _ => rfl, HJ.out.trans (b2.mono HJ.out.size)⟩
      · have d6 : r 12 = .bool rb := (hdep _ rfl ⟨6, .guard⟩ (by simp) rfl).2
        cases rb with
        | false =>
          clear hdep
          refine wpOp_step rfl (fun K hK => ?_)
          go_simp
          exact hK _ _ ⟨undef, by simp [upd, d6], (fun _ _ h => h), (fun e => by cases e), hj⟩
        | true =>
          have x0 := hx 0
          have x1 := hx 1
          have x2 := hx 2
          rw [hc1 _ _ (by simp)] at x0 x1 x2
          clear hdep
          refine wpOp_step rfl (fun K hK => ?_)
          go_simp
          exact hK _ _ ⟨.agg #[.int .i64 2, .int .i64 n, .string ⟨#[]⟩], by simp [upd, d6], (fun _ _ h => h), (fun _ => rfl), hj⟩
      · have d6 : r 12 = .bool rb := (hdep _ rfl ⟨6, .guard⟩ (by simp) rfl).2
        have d8 : rb = true → r 14 = .agg #[.int .i64 2, .int .i64 n, .string ⟨#[]⟩] := (hdep _ rfl ⟨8, .data⟩ (by simp) rfl).2
        have d9 : rb = true → r 15 = .agg #[.int .i64 2, .int .i64 n, .string ⟨#[]⟩] := (hdep _ rfl ⟨9, .data⟩ (by simp) rfl).2
        cases rb with
        | false =>
          clear hdep
          refine wpOp_step rfl (fun K hK => ?_)
          go_simp
          exact hK _ _ ⟨undef, by simp [upd, d6], (fun _ _ h => h), (fun e => by cases e), hj⟩
        | true =>
          have d8 := d8 rfl
          have d9 := d9 rfl
          clear hdep
          refine wpOp_step rfl (fun K hK => ?_)
          go_simp
          exact hK _ _ ⟨.bool true, by simp [upd, d6, d8, d9], (fun _ _ h => h), (fun _ => rfl), hj⟩
      · have d6 : r 12 = .bool rb := (hdep _ rfl ⟨6, .data⟩ (by simp) rfl).2
        have d10 : rb = true → r 16 = .bool true := (hdep _ rfl ⟨10, .data⟩ (by simp) rfl).2
        cases rb with
        | false =>
          clear hdep
          refine wpOp_step rfl (fun K hK => ?_)
          go_simp
          exact hK _ _ ⟨.bool false, by simp [upd, d6], (fun _ _ h => h), rfl, hj⟩
        | true =>
          have d10 := d10 rfl
          clear hdep
          refine wpOp_step rfl (fun K hK => ?_)
          go_simp
          exact hK _ _ ⟨.bool true, by simp [upd, d6, d10], (fun _ _ h => h), rfl, hj⟩
      · have d11 : r 17 = .bool (rb && true) := (hdep _ rfl ⟨11, .data⟩ (by simp) rfl).2
        clear hdep
        refine wpOp_step rfl (fun K hK => ?_)
        go_simp
        exact hK _ _ ⟨.bool (rb && true), by simp [upd, d11], (fun _ _ h => h), rfl, hj⟩
    case last =>
      intro D r W hLs hD hj hp
      have d12 : r 2 = .bool (rb && true) := hp 12 (by omega)
      have HE : Hid (Below w.heap.size w W) := Q1.out.trans (hj.mono Q1.out.size)
      clear hp hj
      go_wp2_with fail
      go_ret
      first | exact ⟨ret_bool H.out, HE.out⟩ | exact ⟨by rw [← H.out]; exact congrArg Ending.returned d12, HE.out⟩
  · have h4 : ¬ s.toList = [] := fun e => h3 (no_list e)
    have h4' : ¬ ([] : List UInt8) = s.toList := fun e => h4 e.symm
    have h5 : (([] : List UInt8) == s.toList) = false := by rw [beq_eq_false_iff_ne]; exact h4'
    have h5' : (s.toList == ([] : List UInt8)) = false := by rw [beq_eq_false_iff_ne]; exact h4
    have hz : noB s = false := no_not h4
    obtain ⟨rb, hrb⟩ : ∃ b, b = (decide (0 ≤ n) && decide (n ≤ 1000000)) := ⟨_, rfl⟩
    have HR : Hid ((decide (0 ≤ n) && decide (n ≤ 1000000)) = rb) := hrb.symm
    have H : Hid ((rb && false) = actB 2 n s) := by subst hrb; rw [Hid]; simp [actB, hz]
    clear hrb
    go_enter Try.func19, Try.ntmps19
    go_wp2_with fail
    refine (deed_2 n s _).mono ?_
    rintro e w1 ⟨rfl, b1⟩
    obtain ⟨hc1, hf1⟩ := bcell b1
    have hz1 : w.heap.size + 1 ≤ w1.heap.size := by have := b1.size; simpa using this
    have hy1 : w.heap.size < w1.heap.size := by omega
    have Q1 : Hid (Below w.heap.size w w1) := ((Below.refl _ _).alloc (Nat.le_refl _) _).trans (b1.mono (by simp))
    clear b1
    go_wp2_with fail
    refine region_rel6 (n := 13) (by kernel_rfl) (by kernel_rfl) (by rfl) (fun r => ⟨#[(.agg #[.int .i64 2, .int .i64 n, .string s]), (.pointer (some ⟨w.heap.size, 0, none⟩)), (r 2), (.iface 100 (.agg #[.int .i64 n])), (.agg #[.int .i64 2, .int .i64 n, .string s]), (.iface 100 (.agg #[.int .i64 n])), (r 6), (r 7), (r 8), (r 9), (r 10), (r 11), (r 12), (r 13), (r 14), (r 15), (r 16), (r 17)], []⟩) (fun nz => match nz with | 2 => .bool false | _ => undef) (fun iz => [6, 7, 8, 9, 10, 11, 12, 13, 14, 15, 16, 17, 2].getD iz 0) (fun iz jz hi hj h => (by decide : ∀ i, i < 13 → ∀ j, j < 13 → [6, 7, 8, 9, 10, 11, 12, 13, 14, 15, 16, 17, 2].getD i 0 = [6, 7, 8, 9, 10, 11, 12, 13, 14, 15, 16, 17, 2].getD j 0 → i = j) iz hi jz hj h)
      (AcPv (.iface 100 (.agg #[.int .i64 n])) (.agg #[.int .i64 2, .int .i64 n, .string ⟨#[]⟩]) (.agg #[.int .i64 2, .int .i64 n, .string s]) rb false) (fun _ _ W => Below w1.heap.size w1 W) (Below.refl _ _).drew ?step ?last
    case step =>
      intro D r W iq hiq hLs hLi hj hdep
      have hx : ∀ o, W.cell? ⟨w.heap.size, o, none⟩ = w1.cell? ⟨w.heap.size, o, none⟩ := fun o => hj.cell hy1
      have hcase : iq = 0 ∨ iq = 1 ∨ iq = 2 ∨ iq = 3 ∨ iq = 4 ∨ iq = 5 ∨ iq = 6 ∨ iq = 7 ∨ iq = 8 ∨ iq = 9 ∨ iq = 10 ∨ iq = 11 ∨ iq = 12 := by omega
      clear hiq
      rcases hcase with rfl | rfl | rfl | rfl | rfl | rfl | rfl | rfl | rfl | rfl | rfl | rfl | rfl
      · clear hdep
        refine wpOp_step rfl (fun K hK => ?_)
        go_simp
        exact hK _ _ ⟨.iface 100 (.agg #[.int .i64 n]), by simp [upd], (fun _ _ h => h), rfl, hj⟩
      · have d0 : r 6 = .iface 100 (.agg #[.int .i64 n]) := (hdep _ rfl ⟨0, .data⟩ (by simp) rfl).2
        clear hdep
        refine wpOp_step rfl (fun K hK => ?_)
        go_simp
        exact hK _ _ ⟨.bool true, by simp [upd, d0], (fun _ _ h => h), rfl, hj⟩
      · have d1 : r 7 = .bool true := (hdep _ rfl ⟨1, .data⟩ (by simp) rfl).2
        clear hdep
        refine wpOp_step rfl (fun K hK => ?_)
        go_simp
        exact hK _ _ ⟨.bool true, by simp [upd, d1], (fun _ _ h => h), rfl, hj⟩
      · have d2 : r 8 = .bool true := (hdep _ rfl ⟨2, .guard⟩ (by simp) rfl).2
        clear hdep
        refine wpOp_step rfl (fun K hK => ?_)
        go_simp
        exact hK _ _ ⟨.iface 100 (.agg #[.int .i64 n]), by simp [upd, d2], (fun _ _ h => h), rfl, hj⟩
      · have d2 : r 8 = .bool true := (hdep _ rfl ⟨2, .guard⟩ (by simp) rfl).2
        have d3 : r 9 = .iface 100 (.agg #[.int .i64 n]) := (hdep _ rfl ⟨3, .data⟩ (by simp) rfl).2
        have HJ : Hid _ := hj
        clear hdep
        refine wpOp_step rfl (fun K hK => ?_)
        go_simp
        refine Calls.mono (right_2 n s _ hs) ?_
        rintro e W2 ⟨he, b2⟩
        rw [HR.out] at he
        subst he
        exact hK _ _ ⟨.bool rb, by simp [upd, d2, d3, Act.put], fun _ _ h => h, rfl, HJ.out.trans (b2.mono HJ.out.size)⟩
      · have d2 : r 8 = .bool true := (hdep _ rfl ⟨2, .data⟩ (by simp) rfl).2
        have d4 : r 10 = .bool rb := (hdep _ rfl ⟨4, .data⟩ (by simp) rfl).2
        clear hdep
        refine wpOp_step rfl (fun K hK => ?_)
        go_simp
        exact hK _ _ ⟨.bool rb, by simp [upd, d2, d4], (fun _ _ h => h), rfl, hj⟩
      · have d5 : r 11 = .bool rb := (hdep _ rfl ⟨5, .data⟩ (by simp) rfl).2
        clear hdep
        refine wpOp_step rfl (fun K hK => ?_)
        go_simp
        exact hK _ _ ⟨.bool rb, by simp [upd, d5], (fun _ _ h => h), rfl, hj⟩
      · have d6 : r 12 = .bool rb := (hdep _ rfl ⟨6, .guard⟩ (by simp) rfl).2
        cases rb with
        | false =>
          clear hdep
          refine wpOp_step rfl (fun K hK => ?_)
          go_simp
          exact hK _ _ ⟨undef, by simp [upd, d6], (fun _ _ h => h), (fun e => by cases e), hj⟩
        | true =>
          clear hdep
          refine wpOp_step rfl (fun K hK => ?_)
          go_simp
          exact hK _ _ ⟨.iface 100 (.agg #[.int .i64 n]), by simp [upd, d6], (fun _ _ h => h), (fun _ => rfl), hj⟩
      · have d6 : r 12 = .bool rb := (hdep _ rfl ⟨6, .guard⟩ (by simp) rfl).2
        have d7 : rb = true → r 13 = .iface 100 (.agg #[.int .i64 n]) := (hdep _ rfl ⟨7, .data⟩ (by simp) rfl).2
        have HJ : Hid _ := hj
        cases rb with
        | false =>
          clear hdep
          refine wpOp_step rfl (fun K hK => ?_)
          go_simp
          exact hK _ _ ⟨undef, by simp [upd, d6], (fun _ _ h => h), (fun e => by cases e), hj⟩
        | true =>
          have d7 := d7 rfl
          clear hdep
          refine wpOp_step rfl (fun K hK => ?_)
          go_simp
          refine Calls.mono (act_2 n s _) ?_
          rintro e W2 ⟨rfl, b2⟩
          exact hK _ _ ⟨.agg #[.int .i64 2, .int .i64 n, .string ⟨#[]⟩], by simp [upd, d6, d7, Act.put], fun _ _ h => h, fun _ => rfl, HJ.out.trans (b2.mono HJ.out.size)⟩
      · have d6 : r 12 = .bool rb := (hdep _ rfl ⟨6, .guard⟩ (by simp) rfl).2
        cases rb with
        | false =>
          clear hdep
          refine wpOp_step rfl (fun K hK => ?_)
          go_simp
          exact hK _ _ ⟨undef, by simp [upd, d6], (fun _ _ h => h), (fun e => by cases e), hj⟩
        | true =>
          have x0 := hx 0
          have x1 := hx 1
          have x2 := hx 2
          rw [hc1 _ _ (by simp)] at x0 x1 x2
          clear hdep
          refine wpOp_step rfl (fun K hK => ?_)
          go_simp
          exact hK _ _ ⟨.agg #[.int .i64 2, .int .i64 n, .string s], by simp [upd, d6], (fun _ _ h => h), (fun _ => rfl), hj⟩
      · have d6 : r 12 = .bool rb := (hdep _ rfl ⟨6, .guard⟩ (by simp) rfl).2
        have d8 : rb = true → r 14 = .agg #[.int .i64 2, .int .i64 n, .string ⟨#[]⟩] := (hdep _ rfl ⟨8, .data⟩ (by simp) rfl).2
        have d9 : rb = true → r 15 = .agg #[.int .i64 2, .int .i64 n, .string s] := (hdep _ rfl ⟨9, .data⟩ (by simp) rfl).2
        cases rb with
        | false =>
          clear hdep
          refine wpOp_step rfl (fun K hK => ?_)
          go_simp
          exact hK _ _ ⟨undef, by simp [upd, d6], (fun _ _ h => h), (fun e => by cases e), hj⟩
        | true =>
          have d8 := d8 rfl
          have d9 := d9 rfl
          clear hdep
          refine wpOp_step rfl (fun K hK => ?_)
          go_simp
          exact hK _ _ ⟨.bool false, by simp [upd, d6, d8, d9], (fun _ _ h => h), (fun _ => rfl), hj⟩
      · have d6 : r 12 = .bool rb := (hdep _ rfl ⟨6, .data⟩ (by simp) rfl).2
        have d10 : rb = true → r 16 = .bool false := (hdep _ rfl ⟨10, .data⟩ (by simp) rfl).2
        cases rb with
        | false =>
          clear hdep
          refine wpOp_step rfl (fun K hK => ?_)
          go_simp
          exact hK _ _ ⟨.bool false, by simp [upd, d6], (fun _ _ h => h), rfl, hj⟩
        | true =>
          have d10 := d10 rfl
          clear hdep
          refine wpOp_step rfl (fun K hK => ?_)
          go_simp
          exact hK _ _ ⟨.bool false, by simp [upd, d6, d10], (fun _ _ h => h), rfl, hj⟩
      · have d11 : r 17 = .bool (rb && false) := (hdep _ rfl ⟨11, .data⟩ (by simp) rfl).2
        clear hdep
        refine wpOp_step rfl (fun K hK => ?_)
        go_simp
        exact hK _ _ ⟨.bool (rb && false), by simp [upd, d11], (fun _ _ h => h), rfl, hj⟩
    case last =>
      intro D r W hLs hD hj hp
      have d12 : r 2 = .bool (rb && false) := hp 12 (by omega)
      have HE : Hid (Below w.heap.size w W) := Q1.out.trans (hj.mono Q1.out.size)
      clear hp hj
      go_wp2_with fail
      go_ret
      first | exact ⟨ret_bool H.out, HE.out⟩ | exact ⟨by rw [← H.out]; exact congrArg Ending.returned d12, HE.out⟩
set_option maxHeartbeats 4000000 in
set_option maxRecDepth 40000 in
theorem impl_act_3 (n : Int) (s : ByteArray) (w : World) (hs : s.size ≤ maxLen) :
    Calls Try.prog 19 #[.agg #[.int .i64 3, .int .i64 n, .string s]] w fun e w' => e = .returned (.bool (actB 3 n s)) ∧ Below w.heap.size w w' := by
  by_cases h3 : s = ⟨#[]⟩
  · subst h3
    obtain ⟨rb, hrb⟩ : ∃ b, b = (decide (0 ≤ n) && decide (n ≤ 1000000)) := ⟨_, rfl⟩
    have HR : Hid ((decide (0 ≤ n) && decide (n ≤ 1000000)) = rb) := hrb.symm
    have H : Hid ((rb && true) = actB 3 n ⟨#[]⟩) := by subst hrb; rw [Hid]; simp [actB, noE, szE]
    clear hrb
    go_enter Try.func19, Try.ntmps19
    go_wp2_with fail
    refine (deed_3 n ⟨#[]⟩ _).mono ?_
    rintro e w1 ⟨rfl, b1⟩
    obtain ⟨hc1, hf1⟩ := bcell b1
    have hz1 : w.heap.size + 1 ≤ w1.heap.size := by have := b1.size; simpa using this
    have hy1 : w.heap.size < w1.heap.size := by omega
    have Q1 : Hid (Below w.heap.size w w1) := ((Below.refl _ _).alloc (Nat.le_refl _) _).trans (b1.mono (by simp))
    clear b1
    go_wp2_with fail
    refine region_rel6 (n := 13) (by kernel_rfl) (by kernel_rfl) (by rfl) (fun r => ⟨#[(.agg #[.int .i64 3, .int .i64 n, .string ⟨#[]⟩]), (.pointer (some ⟨w.heap.size, 0, none⟩)), (r 2), (.iface 101 (.agg #[.int .i64 n])), (.agg #[.int .i64 3, .int .i64 n, .string ⟨#[]⟩]), (.iface 101 (.agg #[.int .i64 n])), (r 6), (r 7), (r 8), (r 9), (r 10), (r 11), (r 12), (r 13), (r 14), (r 15), (r 16), (r 17)], []⟩) (fun nz => match nz with | 2 => .bool false | _ => undef) (fun iz => [6, 7, 8, 9, 10, 11, 12, 13, 14, 15, 16, 17, 2].getD iz 0) (fun iz jz hi hj h => (by decide : ∀ i, i < 13 → ∀ j, j < 13 → [6, 7, 8, 9, 10, 11, 12, 13, 14, 15, 16, 17, 2].getD i 0 = [6, 7, 8, 9, 10, 11, 12, 13, 14, 15, 16, 17, 2].getD j 0 → i = j) iz hi jz hj h)
      (AcPv (.iface 101 (.agg #[.int .i64 n])) (.agg #[.int .i64 3, .int .i64 n, .string ⟨#[]⟩]) (.agg #[.int .i64 3, .int .i64 n, .string ⟨#[]⟩]) rb true) (fun _ _ W => Below w1.heap.size w1 W) (Below.refl _ _).drew ?step ?last
    case step =>
      intro D r W iq hiq hLs hLi hj hdep
      have hx : ∀ o, W.cell? ⟨w.heap.size, o, none⟩ = w1.cell? ⟨w.heap.size, o, none⟩ := fun o => hj.cell hy1
      have hcase : iq = 0 ∨ iq = 1 ∨ iq = 2 ∨ iq = 3 ∨ iq = 4 ∨ iq = 5 ∨ iq = 6 ∨ iq = 7 ∨ iq = 8 ∨ iq = 9 ∨ iq = 10 ∨ iq = 11 ∨ iq = 12 := by omega
      clear hiq
      rcases hcase with rfl | rfl | rfl | rfl | rfl | rfl | rfl | rfl | rfl | rfl | rfl | rfl | rfl
      · clear hdep
        refine wpOp_step rfl (fun K hK => ?_)
        go_simp
        exact hK _ _ ⟨.iface 101 (.agg #[.int .i64 n]), by simp [upd], (fun _ _ h => h), rfl, hj⟩
      · have d0 : r 6 = .iface 101 (.agg #[.int .i64 n]) := (hdep _ rfl ⟨0, .data⟩ (by simp) rfl).2
        clear hdep
        refine wpOp_step rfl (fun K hK => ?_)
        go_simp
        exact hK _ _ ⟨.bool true, by simp [upd, d0], (fun _ _ h => h), rfl, hj⟩
      · have d1 : r 7 = .bool true := (hdep _ rfl ⟨1, .data⟩ (by simp) rfl).2
        clear hdep
        refine wpOp_step rfl (fun K hK => ?_)
        go_simp
        exact hK _ _ ⟨.bool true, by simp [upd, d1], (fun _ _ h => h), rfl, hj⟩
      · have d2 : r 8 = .bool true := (hdep _ rfl ⟨2, .guard⟩ (by simp) rfl).2
        clear hdep
        refine wpOp_step rfl (fun K hK => ?_)
        go_simp
        exact hK _ _ ⟨.iface 101 (.agg #[.int .i64 n]), by simp [upd, d2], (fun _ _ h => h), rfl, hj⟩
      · have d2 : r 8 = .bool true := (hdep _ rfl ⟨2, .guard⟩ (by simp) rfl).2
        have d3 : r 9 = .iface 101 (.agg #[.int .i64 n]) := (hdep _ rfl ⟨3, .data⟩ (by simp) rfl).2
        have HJ : Hid _ := hj
        clear hdep
        refine wpOp_step rfl (fun K hK => ?_)
        go_simp
        refine Calls.mono (right_3 n ⟨#[]⟩ _ hs) ?_
        rintro e W2 ⟨he, b2⟩
        rw [HR.out] at he
        subst he
        exact hK _ _ ⟨.bool rb, by simp [upd, d2, d3, Act.put], fun _ _ h => h, rfl, HJ.out.trans (b2.mono HJ.out.size)⟩
      · have d2 : r 8 = .bool true := (hdep _ rfl ⟨2, .data⟩ (by simp) rfl).2
        have d4 : r 10 = .bool rb := (hdep _ rfl ⟨4, .data⟩ (by simp) rfl).2
        clear hdep
        refine wpOp_step rfl (fun K hK => ?_)
        go_simp
        exact hK _ _ ⟨.bool rb, by simp [upd, d2, d4], (fun _ _ h => h), rfl, hj⟩
      · have d5 : r 11 = .bool rb := (hdep _ rfl ⟨5, .data⟩ (by simp) rfl).2
        clear hdep
        refine wpOp_step rfl (fun K hK => ?_)
        go_simp
        exact hK _ _ ⟨.bool rb, by simp [upd, d5], (fun _ _ h => h), rfl, hj⟩
      · have d6 : r 12 = .bool rb := (hdep _ rfl ⟨6, .guard⟩ (by simp) rfl).2
        cases rb with
        | false =>
          clear hdep
          refine wpOp_step rfl (fun K hK => ?_)
          go_simp
          exact hK _ _ ⟨undef, by simp [upd, d6], (fun _ _ h => h), (fun e => by cases e), hj⟩
        | true =>
          clear hdep
          refine wpOp_step rfl (fun K hK => ?_)
          go_simp
          exact hK _ _ ⟨.iface 101 (.agg #[.int .i64 n]), by simp [upd, d6], (fun _ _ h => h), (fun _ => rfl), hj⟩
      · have d6 : r 12 = .bool rb := (hdep _ rfl ⟨6, .guard⟩ (by simp) rfl).2
        have d7 : rb = true → r 13 = .iface 101 (.agg #[.int .i64 n]) := (hdep _ rfl ⟨7, .data⟩ (by simp) rfl).2
        have HJ : Hid _ := hj
        cases rb with
        | false =>
          clear hdep
          refine wpOp_step rfl (fun K hK => ?_)
          go_simp
          exact hK _ _ ⟨undef, by simp [upd, d6], (fun _ _ h => h), (fun e => by cases e), hj⟩
        | true =>
          have d7 := d7 rfl
          clear hdep
          refine wpOp_step rfl (fun K hK => ?_)
          go_simp
          refine Calls.mono (act_3 n ⟨#[]⟩ _) ?_
          rintro e W2 ⟨rfl, b2⟩
          exact hK _ _ ⟨.agg #[.int .i64 3, .int .i64 n, .string ⟨#[]⟩], by simp [upd, d6, d7, Act.put], fun _ _ h => h, fun _ => rfl, HJ.out.trans (b2.mono HJ.out.size)⟩
      · have d6 : r 12 = .bool rb := (hdep _ rfl ⟨6, .guard⟩ (by simp) rfl).2
        cases rb with
        | false =>
          clear hdep
          refine wpOp_step rfl (fun K hK => ?_)
          go_simp
          exact hK _ _ ⟨undef, by simp [upd, d6], (fun _ _ h => h), (fun e => by cases e), hj⟩
        | true =>
          have x0 := hx 0
          have x1 := hx 1
          have x2 := hx 2
          rw [hc1 _ _ (by simp)] at x0 x1 x2
          clear hdep
          refine wpOp_step rfl (fun K hK => ?_)
          go_simp
          exact hK _ _ ⟨.agg #[.int .i64 3, .int .i64 n, .string ⟨#[]⟩], by simp [upd, d6], (fun _ _ h => h), (fun _ => rfl), hj⟩
      · have d6 : r 12 = .bool rb := (hdep _ rfl ⟨6, .guard⟩ (by simp) rfl).2
        have d8 : rb = true → r 14 = .agg #[.int .i64 3, .int .i64 n, .string ⟨#[]⟩] := (hdep _ rfl ⟨8, .data⟩ (by simp) rfl).2
        have d9 : rb = true → r 15 = .agg #[.int .i64 3, .int .i64 n, .string ⟨#[]⟩] := (hdep _ rfl ⟨9, .data⟩ (by simp) rfl).2
        cases rb with
        | false =>
          clear hdep
          refine wpOp_step rfl (fun K hK => ?_)
          go_simp
          exact hK _ _ ⟨undef, by simp [upd, d6], (fun _ _ h => h), (fun e => by cases e), hj⟩
        | true =>
          have d8 := d8 rfl
          have d9 := d9 rfl
          clear hdep
          refine wpOp_step rfl (fun K hK => ?_)
          go_simp
          exact hK _ _ ⟨.bool true, by simp [upd, d6, d8, d9], (fun _ _ h => h), (fun _ => rfl), hj⟩
      · have d6 : r 12 = .bool rb := (hdep _ rfl ⟨6, .data⟩ (by simp) rfl).2
        have d10 : rb = true → r 16 = .bool true := (hdep _ rfl ⟨10, .data⟩ (by simp) rfl).2
        cases rb with
        | false =>
          clear hdep
          refine wpOp_step rfl (fun K hK => ?_)
          go_simp
          exact hK _ _ ⟨.bool false, by simp [upd, d6], (fun _ _ h => h), rfl, hj⟩
        | true =>
          have d10 := d10 rfl
          clear hdep
          refine wpOp_step rfl (fun K hK => ?_)
          go_simp
          exact hK _ _ ⟨.bool true, by simp [upd, d6, d10], (fun _ _ h => h), rfl, hj⟩
      · have d11 : r 17 = .bool (rb && true) := (hdep _ rfl ⟨11, .data⟩ (by simp) rfl).2
        clear hdep
        refine wpOp_step rfl (fun K hK => ?_)
        go_simp
        exact hK _ _ ⟨.bool (rb && true), by simp [upd, d11], (fun _ _ h => h), rfl, hj⟩
    case last =>
      intro D r W hLs hD hj hp
      have d12 : r 2 = .bool (rb && true) := hp 12 (by omega)
      have HE : Hid (Below w.heap.size w W) := Q1.out.trans (hj.mono Q1.out.size)
      clear hp hj
      go_wp2_with fail
      go_ret
      first | exact ⟨ret_bool H.out, HE.out⟩ | exact ⟨by rw [← H.out]; exact congrArg Ending.returned d12, HE.out⟩
  · have h4 : ¬ s.toList = [] := fun e => h3 (no_list e)
    have h4' : ¬ ([] : List UInt8) = s.toList := fun e => h4 e.symm
    have h5 : (([] : List UInt8) == s.toList) = false := by rw [beq_eq_false_iff_ne]; exact h4'
    have h5' : (s.toList == ([] : List UInt8)) = false := by rw [beq_eq_false_iff_ne]; exact h4
    have hz : noB s = false := no_not h4
    obtain ⟨rb, hrb⟩ : ∃ b, b = (decide (0 ≤ n) && decide (n ≤ 1000000)) := ⟨_, rfl⟩
    have HR : Hid ((decide (0 ≤ n) && decide (n ≤ 1000000)) = rb) := hrb.symm
    have H : Hid ((rb && false) = actB 3 n s) := by subst hrb; rw [Hid]; simp [actB, hz]
    clear hrb
    go_enter Try.func19, Try.ntmps19
    go_wp2_with fail
    refine (deed_3 n s _).mono ?_
    rintro e w1 ⟨rfl, b1⟩
    obtain ⟨hc1, hf1⟩ := bcell b1
    have hz1 : w.heap.size + 1 ≤ w1.heap.size := by have := b1.size; simpa using this
    have hy1 : w.heap.size < w1.heap.size := by omega
    have Q1 : Hid (Below w.heap.size w w1) := ((Below.refl _ _).alloc (Nat.le_refl _) _).trans (b1.mono (by simp))
    clear b1
    go_wp2_with fail
    refine region_rel6 (n := 13) (by kernel_rfl) (by kernel_rfl) (by rfl) (fun r => ⟨#[(.agg #[.int .i64 3, .int .i64 n, .string s]), (.pointer (some ⟨w.heap.size, 0, none⟩)), (r 2), (.iface 101 (.agg #[.int .i64 n])), (.agg #[.int .i64 3, .int .i64 n, .string s]), (.iface 101 (.agg #[.int .i64 n])), (r 6), (r 7), (r 8), (r 9), (r 10), (r 11), (r 12), (r 13), (r 14), (r 15), (r 16), (r 17)], []⟩) (fun nz => match nz with | 2 => .bool false | _ => undef) (fun iz => [6, 7, 8, 9, 10, 11, 12, 13, 14, 15, 16, 17, 2].getD iz 0) (fun iz jz hi hj h => (by decide : ∀ i, i < 13 → ∀ j, j < 13 → [6, 7, 8, 9, 10, 11, 12, 13, 14, 15, 16, 17, 2].getD i 0 = [6, 7, 8, 9, 10, 11, 12, 13, 14, 15, 16, 17, 2].getD j 0 → i = j) iz hi jz hj h)
      (AcPv (.iface 101 (.agg #[.int .i64 n])) (.agg #[.int .i64 3, .int .i64 n, .string ⟨#[]⟩]) (.agg #[.int .i64 3, .int .i64 n, .string s]) rb false) (fun _ _ W => Below w1.heap.size w1 W) (Below.refl _ _).drew ?step ?last
    case step =>
      intro D r W iq hiq hLs hLi hj hdep
      have hx : ∀ o, W.cell? ⟨w.heap.size, o, none⟩ = w1.cell? ⟨w.heap.size, o, none⟩ := fun o => hj.cell hy1
      have hcase : iq = 0 ∨ iq = 1 ∨ iq = 2 ∨ iq = 3 ∨ iq = 4 ∨ iq = 5 ∨ iq = 6 ∨ iq = 7 ∨ iq = 8 ∨ iq = 9 ∨ iq = 10 ∨ iq = 11 ∨ iq = 12 := by omega
      clear hiq
      rcases hcase with rfl | rfl | rfl | rfl | rfl | rfl | rfl | rfl | rfl | rfl | rfl | rfl | rfl
      · clear hdep
        refine wpOp_step rfl (fun K hK => ?_)
        go_simp
        exact hK _ _ ⟨.iface 101 (.agg #[.int .i64 n]), by simp [upd], (fun _ _ h => h), rfl, hj⟩
      · have d0 : r 6 = .iface 101 (.agg #[.int .i64 n]) := (hdep _ rfl ⟨0, .data⟩ (by simp) rfl).2
        clear hdep
        refine wpOp_step rfl (fun K hK => ?_)
        go_simp
        exact hK _ _ ⟨.bool true, by simp [upd, d0], (fun _ _ h => h), rfl, hj⟩
      · have d1 : r 7 = .bool true := (hdep _ rfl ⟨1, .data⟩ (by simp) rfl).2
        clear hdep
        refine wpOp_step rfl (fun K hK => ?_)
        go_simp
        exact hK _ _ ⟨.bool true, by simp [upd, d1], (fun _ _ h => h), rfl, hj⟩
      · have d2 : r 8 = .bool true := (hdep _ rfl ⟨2, .guard⟩ (by simp) rfl).2
        clear hdep
        refine wpOp_step rfl (fun K hK => ?_)
        go_simp
        exact hK _ _ ⟨.iface 101 (.agg #[.int .i64 n]), by simp [upd, d2], (fun _ _ h => h), rfl, hj⟩
      · have d2 : r 8 = .bool true := (hdep _ rfl ⟨2, .guard⟩ (by simp) rfl).2
        have d3 : r 9 = .iface 101 (.agg #[.int .i64 n]) := (hdep _ rfl ⟨3, .data⟩ (by simp) rfl).2
        have HJ : Hid _ := hj
        clear hdep
        refine wpOp_step rfl (fun K hK => ?_)
        go_simp
        refine Calls.mono (right_3 n s _ hs) ?_
        rintro e W2 ⟨he, b2⟩
        rw [HR.out] at he
        subst he
        exact hK _ _ ⟨.bool rb, by simp [upd, d2, d3, Act.put], fun _ _ h => h, rfl, HJ.out.trans (b2.mono HJ.out.size)⟩
      · have d2 : r 8 = .bool true := (hdep _ rfl ⟨2, .data⟩ (by simp) rfl).2
        have d4 : r 10 = .bool rb := (hdep _ rfl ⟨4, .data⟩ (by simp) rfl).2
        clear hdep
        refine wpOp_step rfl (fun K hK => ?_)
        go_simp
        exact hK _ _ ⟨.bool rb, by simp [upd, d2, d4], (fun _ _ h => h), rfl, hj⟩
      · have d5 : r 11 = .bool rb := (hdep _ rfl ⟨5, .data⟩ (by simp) rfl).2
        clear hdep
        refine wpOp_step rfl (fun K hK => ?_)
        go_simp
        exact hK _ _ ⟨.bool rb, by simp [upd, d5], (fun _ _ h => h), rfl, hj⟩
      · have d6 : r 12 = .bool rb := (hdep _ rfl ⟨6, .guard⟩ (by simp) rfl).2
        cases rb with
        | false =>
          clear hdep
          refine wpOp_step rfl (fun K hK => ?_)
          go_simp
          exact hK _ _ ⟨undef, by simp [upd, d6], (fun _ _ h => h), (fun e => by cases e), hj⟩
        | true =>
          clear hdep
          refine wpOp_step rfl (fun K hK => ?_)
          go_simp
          exact hK _ _ ⟨.iface 101 (.agg #[.int .i64 n]), by simp [upd, d6], (fun _ _ h => h), (fun _ => rfl), hj⟩
      · have d6 : r 12 = .bool rb := (hdep _ rfl ⟨6, .guard⟩ (by simp) rfl).2
        have d7 : rb = true → r 13 = .iface 101 (.agg #[.int .i64 n]) := (hdep _ rfl ⟨7, .data⟩ (by simp) rfl).2
        have HJ : Hid _ := hj
        cases rb with
        | false =>
          clear hdep
          refine wpOp_step rfl (fun K hK => ?_)
          go_simp
          exact hK _ _ ⟨undef, by simp [upd, d6], (fun _ _ h => h), (fun e => by cases e), hj⟩
        | true =>
          have d7 := d7 rfl
          clear hdep
          refine wpOp_step rfl (fun K hK => ?_)
          go_simp
          refine Calls.mono (act_3 n s _) ?_
          rintro e W2 ⟨rfl, b2⟩
          exact hK _ _ ⟨.agg #[.int .i64 3, .int .i64 n, .string ⟨#[]⟩], by simp [upd, d6, d7, Act.put], fun _ _ h => h, fun _ => rfl, HJ.out.trans (b2.mono HJ.out.size)⟩
      · have d6 : r 12 = .bool rb := (hdep _ rfl ⟨6, .guard⟩ (by simp) rfl).2
        cases rb with
        | false =>
          clear hdep
          refine wpOp_step rfl (fun K hK => ?_)
          go_simp
          exact hK _ _ ⟨undef, by simp [upd, d6], (fun _ _ h => h), (fun e => by cases e), hj⟩
        | true =>
          have x0 := hx 0
          have x1 := hx 1
          have x2 := hx 2
          rw [hc1 _ _ (by simp)] at x0 x1 x2
          clear hdep
          refine wpOp_step rfl (fun K hK => ?_)
          go_simp
          exact hK _ _ ⟨.agg #[.int .i64 3, .int .i64 n, .string s], by simp [upd, d6], (fun _ _ h => h), (fun _ => rfl), hj⟩
      · have d6 : r 12 = .bool rb := (hdep _ rfl ⟨6, .guard⟩ (by simp) rfl).2
        have d8 : rb = true → r 14 = .agg #[.int .i64 3, .int .i64 n, .string ⟨#[]⟩] := (hdep _ rfl ⟨8, .data⟩ (by simp) rfl).2
        have d9 : rb = true → r 15 = .agg #[.int .i64 3, .int .i64 n, .string s] := (hdep _ rfl ⟨9, .data⟩ (by simp) rfl).2
        cases rb with
        | false =>
          clear hdep
          refine wpOp_step rfl (fun K hK => ?_)
          go_simp
          exact hK _ _ ⟨undef, by simp [upd, d6], (fun _ _ h => h), (fun e => by cases e), hj⟩
        | true =>
          have d8 := d8 rfl
          have d9 := d9 rfl
          clear hdep
          refine wpOp_step rfl (fun K hK => ?_)
          go_simp
          exact hK _ _ ⟨.bool false, by simp [upd, d6, d8, d9], (fun _ _ h => h), (fun _ => rfl), hj⟩
      · have d6 : r 12 = .bool rb := (hdep _ rfl ⟨6, .data⟩ (by simp) rfl).2
        have d10 : rb = true → r 16 = .bool false := (hdep _ rfl ⟨10, .data⟩ (by simp) rfl).2
        cases rb with
        | false =>
          clear hdep
          refine wpOp_step rfl (fun K hK => ?_)
          go_simp
          exact hK _ _ ⟨.bool false, by simp [upd, d6], (fun _ _ h => h), rfl, hj⟩
        | true =>
          have d10 := d10 rfl
          clear hdep
          refine wpOp_step rfl (fun K hK => ?_)
          go_simp
          exact hK _ _ ⟨.bool false, by simp [upd, d6, d10], (fun _ _ h => h), rfl, hj⟩
      · have d11 : r 17 = .bool (rb && false) := (hdep _ rfl ⟨11, .data⟩ (by simp) rfl).2
        clear hdep
        refine wpOp_step rfl (fun K hK => ?_)
        go_simp
        exact hK _ _ ⟨.bool (rb && false), by simp [upd, d11], (fun _ _ h => h), rfl, hj⟩
    case last =>
      intro D r W hLs hD hj hp
      have d12 : r 2 = .bool (rb && false) := hp 12 (by omega)
      have HE : Hid (Below w.heap.size w W) := Q1.out.trans (hj.mono Q1.out.size)
      clear hp hj
      go_wp2_with fail
      go_ret
      first | exact ⟨ret_bool H.out, HE.out⟩ | exact ⟨by rw [← H.out]; exact congrArg Ending.returned d12, HE.out⟩
set_option maxHeartbeats 4000000 in
set_option maxRecDepth 40000 in
theorem impl_act_4 (n : Int) (s : ByteArray) (w : World) (hs : s.size ≤ maxLen) :
    Calls Try.prog 19 #[.agg #[.int .i64 4, .int .i64 n, .string s]] w fun e w' => e = .returned (.bool (actB 4 n s)) ∧ Below w.heap.size w w' := by
  by_cases h2 : n = 0
  · subst h2
    by_cases h3 : s = ⟨#[]⟩
    · subst h3
      obtain ⟨rb, hrb⟩ : ∃ b, b = (true) := ⟨_, rfl⟩
      have HR : Hid ((true) = rb) := hrb.symm
      have H : Hid ((rb && true) = actB 4 0 ⟨#[]⟩) := by subst hrb; rw [Hid]; simp [actB, noE, szE]
      clear hrb
      go_enter Try.func19, Try.ntmps19
      go_wp2_with fail
      refine (deed_4 0 ⟨#[]⟩ _).mono ?_
      rintro e w1 ⟨rfl, b1⟩
      obtain ⟨hc1, hf1⟩ := bcell b1
      have hz1 : w.heap.size + 1 ≤ w1.heap.size := by have := b1.size; simpa using this
      have hy1 : w.heap.size < w1.heap.size := by omega
      have Q1 : Hid (Below w.heap.size w w1) := ((Below.refl _ _).alloc (Nat.le_refl _) _).trans (b1.mono (by simp))
      clear b1
      go_wp2_with fail
      refine region_rel6 (n := 13) (by kernel_rfl) (by kernel_rfl) (by rfl) (fun r => ⟨#[(.agg #[.int .i64 4, .int .i64 0, .string ⟨#[]⟩]), (.pointer (some ⟨w.heap.size, 0, none⟩)), (r 2), (.iface 103 (.agg #[])), (.agg #[.int .i64 4, .int .i64 0, .string ⟨#[]⟩]), (.iface 103 (.agg #[])), (r 6), (r 7), (r 8), (r 9), (r 10), (r 11), (r 12), (r 13), (r 14), (r 15), (r 16), (r 17)], []⟩) (fun nz => match nz with | 2 => .bool false | _ => undef) (fun iz => [6, 7, 8, 9, 10, 11, 12, 13, 14, 15, 16, 17, 2].getD iz 0) (fun iz jz hi hj h => (by decide : ∀ i, i < 13 → ∀ j, j < 13 → [6, 7, 8, 9, 10, 11, 12, 13, 14, 15, 16, 17, 2].getD i 0 = [6, 7, 8, 9, 10, 11, 12, 13, 14, 15, 16, 17, 2].getD j 0 → i = j) iz hi jz hj h)
        (AcPv (.iface 103 (.agg #[])) (.agg #[.int .i64 4, .int .i64 0, .string ⟨#[]⟩]) (.agg #[.int .i64 4, .int .i64 0, .string ⟨#[]⟩]) rb true) (fun _ _ W => Below w1.heap.size w1 W) (Below.refl _ _).drew ?step ?last
      case step =>
        intro D r W iq hiq hLs hLi hj hdep
        have hx : ∀ o, W.cell? ⟨w.heap.size, o, none⟩ = w1.cell? ⟨w.heap.size, o, none⟩ := fun o => hj.cell hy1
        have hcase : iq = 0 ∨ iq = 1 ∨ iq = 2 ∨ iq = 3 ∨ iq = 4 ∨ iq = 5 ∨ iq = 6 ∨ iq = 7 ∨ iq = 8 ∨ iq = 9 ∨ iq = 10 ∨ iq = 11 ∨ iq = 12 := by omega
        clear hiq
        rcases hcase with rfl | rfl | rfl | rfl | rfl | rfl | rfl | rfl | rfl | rfl | rfl | rfl | rfl
        · clear hdep
          refine wpOp_step rfl (fun K hK => ?_)
          go_simp
          exact hK _ _ ⟨.iface 103 (.agg #[]), by simp [upd], (fun _ _ h => h), rfl, hj⟩
        · have d0 : r 6 = .iface 103 (.agg #[]) := (hdep _ rfl ⟨0, .data⟩ (by simp) rfl).2
          clear hdep
          refine wpOp_step rfl (fun K hK => ?_)
          go_simp
          exact hK _ _ ⟨.bool true, by simp [upd, d0], (fun _ _ h => h), rfl, hj⟩
        · have d1 : r 7 = .bool true := (hdep _ rfl ⟨1, .data⟩ (by simp) rfl).2
          clear hdep
          refine wpOp_step rfl (fun K hK => ?_)
          go_simp
          exact hK _ _ ⟨.bool true, by simp [upd, d1], (fun _ _ h => h), rfl, hj⟩
        · have d2 : r 8 = .bool true := (hdep _ rfl ⟨2, .guard⟩ (by simp) rfl).2
          clear hdep
          refine wpOp_step rfl (fun K hK => ?_)
          go_simp
          exact hK _ _ ⟨.iface 103 (.agg #[]), by simp [upd, d2], (fun _ _ h => h), rfl, hj⟩
        · have d2 : r 8 = .bool true := (hdep _ rfl ⟨2, .guard⟩ (by simp) rfl).2
          have d3 : r 9 = .iface 103 (.agg #[]) := (hdep _ rfl ⟨3, .data⟩ (by simp) rfl).2
          have HJ : Hid _ := hj
          clear hdep
          refine wpOp_step rfl (fun K hK => ?_)
          go_simp
          refine Calls.mono (right_4 0 ⟨#[]⟩ _ hs) ?_
          rintro e W2 ⟨he, b2⟩
          rw [HR.out] at he
          subst he
          exact hK _ _ ⟨.bool rb, by simp [upd, d2, d3, Act.put], fun _ _ h => h, rfl, HJ.out.trans (b2.mono HJ.out.size)⟩
        · have d2 : r 8 = .bool true := (hdep _ rfl ⟨2, .data⟩ (by simp) rfl).2
          have d4 : r 10 = .bool rb := (hdep _ rfl ⟨4, .data⟩ (by simp) rfl).2
          clear hdep
          refine wpOp_step rfl (fun K hK => ?_)
          go_simp
          exact hK _ _ ⟨.bool rb, by simp [upd, d2, d4], (fun _ _ h => h), rfl, hj⟩
        · have d5 : r 11 = .bool rb := (hdep _ rfl ⟨5, .data⟩ (by simp) rfl).2
          clear hdep
          refine wpOp_step rfl (fun K hK => ?_)
          go_simp
          exact hK _ _ ⟨.bool rb, by simp [upd, d5], (fun _ _ h => h), rfl, hj⟩
        · have d6 : r 12 = .bool rb := (hdep _ rfl ⟨6, .guard⟩ (by simp) rfl).2
          cases rb with
          | false =>
            clear hdep
            refine wpOp_step rfl (fun K hK => ?_)
            go_simp
            exact hK _ _ ⟨undef, by simp [upd, d6], (fun _ _ h => h), (fun e => by cases e), hj⟩
          | true =>
            clear hdep
            refine wpOp_step rfl (fun K hK => ?_)
            go_simp
            exact hK _ _ ⟨.iface 103 (.agg #[]), by simp [upd, d6], (fun _ _ h => h), (fun _ => rfl), hj⟩
        · have d6 : r 12 = .bool rb := (hdep _ rfl ⟨6, .guard⟩ (by simp) rfl).2
          have d7 : rb = true → r 13 = .iface 103 (.agg #[]) := (hdep _ rfl ⟨7, .data⟩ (by simp) rfl).2
          have HJ : Hid _ := hj
          cases rb with
          | false =>
            clear hdep
            refine wpOp_step rfl (fun K hK => ?_)
            go_simp
            exact hK _ _ ⟨undef, by simp [upd, d6], (fun _ _ h => h), (fun e => by cases e), hj⟩
          | true =>
            have d7 := d7 rfl
            clear hdep
            refine wpOp_step rfl (fun K hK => ?_)
            go_simp
            refine Calls.mono (act_4 0 ⟨#[]⟩ _) ?_
            rintro e W2 ⟨rfl, b2⟩
            exact hK _ _ ⟨.agg #[.int .i64 4, .int .i64 0, .string ⟨#[]⟩], by simp [upd, d6, d7, Act.put], fun _ _ h => h, fun _ => rfl, HJ.out.trans (b2.mono HJ.out.size)⟩
        · have d6 : r 12 = .bool rb := (hdep _ rfl ⟨6, .guard⟩ (by simp) rfl).2
          cases rb with
          | false =>
            clear hdep
            refine wpOp_step rfl (fun K hK => ?_)
            go_simp
            exact hK _ _ ⟨undef, by simp [upd, d6], (fun _ _ h => h), (fun e => by cases e), hj⟩
          | true =>
            have x0 := hx 0
            have x1 := hx 1
            have x2 := hx 2
            rw [hc1 _ _ (by simp)] at x0 x1 x2
            clear hdep
            refine wpOp_step rfl (fun K hK => ?_)
            go_simp
            exact hK _ _ ⟨.agg #[.int .i64 4, .int .i64 0, .string ⟨#[]⟩], by simp [upd, d6], (fun _ _ h => h), (fun _ => rfl), hj⟩
        · have d6 : r 12 = .bool rb := (hdep _ rfl ⟨6, .guard⟩ (by simp) rfl).2
          have d8 : rb = true → r 14 = .agg #[.int .i64 4, .int .i64 0, .string ⟨#[]⟩] := (hdep _ rfl ⟨8, .data⟩ (by simp) rfl).2
          have d9 : rb = true → r 15 = .agg #[.int .i64 4, .int .i64 0, .string ⟨#[]⟩] := (hdep _ rfl ⟨9, .data⟩ (by simp) rfl).2
          cases rb with
          | false =>
            clear hdep
            refine wpOp_step rfl (fun K hK => ?_)
            go_simp
            exact hK _ _ ⟨undef, by simp [upd, d6], (fun _ _ h => h), (fun e => by cases e), hj⟩
          | true =>
            have d8 := d8 rfl
            have d9 := d9 rfl
            clear hdep
            refine wpOp_step rfl (fun K hK => ?_)
            go_simp
            exact hK _ _ ⟨.bool true, by simp [upd, d6, d8, d9], (fun _ _ h => h), (fun _ => rfl), hj⟩
        · have d6 : r 12 = .bool rb := (hdep _ rfl ⟨6, .data⟩ (by simp) rfl).2
          have d10 : rb = true → r 16 = .bool true := (hdep _ rfl ⟨10, .data⟩ (by simp) rfl).2
          cases rb with
          | false =>
            clear hdep
            refine wpOp_step rfl (fun K hK => ?_)
            go_simp
            exact hK _ _ ⟨.bool false, by simp [upd, d6], (fun _ _ h => h), rfl, hj⟩
          | true =>
            have d10 := d10 rfl
            clear hdep
            refine wpOp_step rfl (fun K hK => ?_)
            go_simp
            exact hK _ _ ⟨.bool true, by simp [upd, d6, d10], (fun _ _ h => h), rfl, hj⟩
        · have d11 : r 17 = .bool (rb && true) := (hdep _ rfl ⟨11, .data⟩ (by simp) rfl).2
          clear hdep
          refine wpOp_step rfl (fun K hK => ?_)
          go_simp
          exact hK _ _ ⟨.bool (rb && true), by simp [upd, d11], (fun _ _ h => h), rfl, hj⟩
      case last =>
        intro D r W hLs hD hj hp
        have d12 : r 2 = .bool (rb && true) := hp 12 (by omega)
        have HE : Hid (Below w.heap.size w W) := Q1.out.trans (hj.mono Q1.out.size)
        clear hp hj
        go_wp2_with fail
        go_ret
        first | exact ⟨ret_bool H.out, HE.out⟩ | exact ⟨by rw [← H.out]; exact congrArg Ending.returned d12, HE.out⟩
    · have h4 : ¬ s.toList = [] := fun e => h3 (no_list e)
      have h4' : ¬ ([] : List UInt8) = s.toList := fun e => h4 e.symm
      have h5 : (([] : List UInt8) == s.toList) = false := by rw [beq_eq_false_iff_ne]; exact h4'
      have h5' : (s.toList == ([] : List UInt8)) = false := by rw [beq_eq_false_iff_ne]; exact h4
      have hz : noB s = false := no_not h4
      obtain ⟨rb, hrb⟩ : ∃ b, b = (true) := ⟨_, rfl⟩
      have HR : Hid ((true) = rb) := hrb.symm
      have H : Hid ((rb && false) = actB 4 0 s) := by subst hrb; rw [Hid]; simp [actB, hz]
      clear hrb
      go_enter Try.func19, Try.ntmps19
      go_wp2_with fail
      refine (deed_4 0 s _).mono ?_
      rintro e w1 ⟨rfl, b1⟩
      obtain ⟨hc1, hf1⟩ := bcell b1
      have hz1 : w.heap.size + 1 ≤ w1.heap.size := by have := b1.size; simpa using this
      have hy1 : w.heap.size < w1.heap.size := by omega
      have Q1 : Hid (Below w.heap.size w w1) := ((Below.refl _ _).alloc (Nat.le_refl _) _).trans (b1.mono (by simp))
      clear b1
      go_wp2_with fail
      refine region_rel6 (n := 13) (by kernel_rfl) (by kernel_rfl) (by rfl) (fun r => ⟨#[(.agg #[.int .i64 4, .int .i64 0, .string s]), (.pointer (some ⟨w.heap.size, 0, none⟩)), (r 2), (.iface 103 (.agg #[])), (.agg #[.int .i64 4, .int .i64 0, .string s]), (.iface 103 (.agg #[])), (r 6), (r 7), (r 8), (r 9), (r 10), (r 11), (r 12), (r 13), (r 14), (r 15), (r 16), (r 17)], []⟩) (fun nz => match nz with | 2 => .bool false | _ => undef) (fun iz => [6, 7, 8, 9, 10, 11, 12, 13, 14, 15, 16, 17, 2].getD iz 0) (fun iz jz hi hj h => (by decide : ∀ i, i < 13 → ∀ j, j < 13 → [6, 7, 8, 9, 10, 11, 12, 13, 14, 15, 16, 17, 2].getD i 0 = [6, 7, 8, 9, 10, 11, 12, 13, 14, 15, 16, 17, 2].getD j 0 → i = j) iz hi jz hj h)
        (AcPv (.iface 103 (.agg #[])) (.agg #[.int .i64 4, .int .i64 0, .string ⟨#[]⟩]) (.agg #[.int .i64 4, .int .i64 0, .string s]) rb false) (fun _ _ W => Below w1.heap.size w1 W) (Below.refl _ _).drew ?step ?last
      case step =>
        intro D r W iq hiq hLs hLi hj hdep
        have hx : ∀ o, W.cell? ⟨w.heap.size, o, none⟩ = w1.cell? ⟨w.heap.size, o, none⟩ := fun o => hj.cell hy1
        have hcase : iq = 0 ∨ iq = 1 ∨ iq = 2 ∨ iq = 3 ∨ iq = 4 ∨ iq = 5 ∨ iq = 6 ∨ iq = 7 ∨ iq = 8 ∨ iq = 9 ∨ iq = 10 ∨ iq = 11 ∨ iq = 12 := by omega
        clear hiq
        rcases hcase with rfl | rfl | rfl | rfl | rfl | rfl | rfl | rfl | rfl | rfl | rfl | rfl | rfl
        · clear hdep
          refine wpOp_step rfl (fun K hK => ?_)
          go_simp
          exact hK _ _ ⟨.iface 103 (.agg #[]), by simp [upd], (fun _ _ h => h), rfl, hj⟩
        · have d0 : r 6 = .iface 103 (.agg #[]) := (hdep _ rfl ⟨0, .data⟩ (by simp) rfl).2
          clear hdep
          refine wpOp_step rfl (fun K hK => ?_)
          go_simp
          exact hK _ _ ⟨.bool true, by simp [upd, d0], (fun _ _ h => h), rfl, hj⟩
        · have d1 : r 7 = .bool true := (hdep _ rfl ⟨1, .data⟩ (by simp) rfl).2
          clear hdep
          refine wpOp_step rfl (fun K hK => ?_)
          go_simp
          exact hK _ _ ⟨.bool true, by simp [upd, d1], (fun _ _ h => h), rfl, hj⟩
        · have d2 : r 8 = .bool true := (hdep _ rfl ⟨2, .guard⟩ (by simp) rfl).2
          clear hdep
          refine wpOp_step rfl (fun K hK => ?_)
          go_simp
          exact hK _ _ ⟨.iface 103 (.agg #[]), by simp [upd, d2], (fun _ _ h => h), rfl, hj⟩
        · have d2 : r 8 = .bool true := (hdep _ rfl ⟨2, .guard⟩ (by simp) rfl).2
          have d3 : r 9 = .iface 103 (.agg #[]) := (hdep _ rfl ⟨3, .data⟩ (by simp) rfl).2
          have HJ : Hid _ := hj
          clear hdep
          refine wpOp_step rfl (fun K hK => ?_)
          go_simp
          refine Calls.mono (right_4 0 s _ hs) ?_
          rintro e W2 ⟨he, b2⟩
          rw [HR.out] at he
          subst he
          exact hK _ _ ⟨.bool rb, by simp [upd, d2, d3, Act.put], fun _ _ h => h, rfl, HJ.out.trans (b2.mono HJ.out.size)⟩
        · have d2 : r 8 = .bool true := (hdep _ rfl ⟨2, .data⟩ (by simp) rfl).2
          have d4 : r 10 = .bool rb := (hdep _ rfl ⟨4, .data⟩ (by simp) rfl).2
          clear hdep
          refine wpOp_step rfl (fun K hK => ?_)
          go_simp
          exact hK _ _ ⟨.bool rb, by simp [upd, d2, d4], (fun _ _ h => h), rfl, hj⟩
        · have d5 : r 11 = .bool rb := (hdep _ rfl ⟨5, .data⟩ (by simp) rfl).2
          clear hdep
          refine wpOp_step rfl (fun K hK => ?_)
          go_simp
          exact hK _ _ ⟨.bool rb, by simp [upd, d5], (fun _ _ h => h), rfl, hj⟩
        · have d6 : r 12 = .bool rb := (hdep _ rfl ⟨6, .guard⟩ (by simp) rfl).2
          cases rb with
          | false =>
            clear hdep
            refine wpOp_step rfl (fun K hK => ?_)
            go_simp
            exact hK _ _ ⟨undef, by simp [upd, d6], (fun _ _ h => h), (fun e => by cases e), hj⟩
          | true =>
            clear hdep
            refine wpOp_step rfl (fun K hK => ?_)
            go_simp
            exact hK _ _ ⟨.iface 103 (.agg #[]), by simp [upd, d6], (fun _ _ h => h), (fun _ => rfl), hj⟩
        · have d6 : r 12 = .bool rb := (hdep _ rfl ⟨6, .guard⟩ (by simp) rfl).2
          have d7 : rb = true → r 13 = .iface 103 (.agg #[]) := (hdep _ rfl ⟨7, .data⟩ (by simp) rfl).2
          have HJ : Hid _ := hj
          cases rb with
          | false =>
            clear hdep
            refine wpOp_step rfl (fun K hK => ?_)
            go_simp
            exact hK _ _ ⟨undef, by simp [upd, d6], (fun _ _ h => h), (fun e => by cases e), hj⟩
          | true =>
            have d7 := d7 rfl
            clear hdep
            refine wpOp_step rfl (fun K hK => ?_)
            go_simp
            refine Calls.mono (act_4 0 s _) ?_
            rintro e W2 ⟨rfl, b2⟩
            exact hK _ _ ⟨.agg #[.int .i64 4, .int .i64 0, .string ⟨#[]⟩], by simp [upd, d6, d7, Act.put], fun _ _ h => h, fun _ => rfl, HJ.out.trans (b2.mono HJ.out.size)⟩
        · have d6 : r 12 = .bool rb := (hdep _ rfl ⟨6, .guard⟩ (by simp) rfl).2
          cases rb with
          | false =>
            clear hdep
            refine wpOp_step rfl (fun K hK => ?_)
            go_simp
            exact hK _ _ ⟨undef, by simp [upd, d6], (fun _ _ h => h), (fun e => by cases e), hj⟩
          | true =>
            have x0 := hx 0
            have x1 := hx 1
            have x2 := hx 2
            rw [hc1 _ _ (by simp)] at x0 x1 x2
            clear hdep
            refine wpOp_step rfl (fun K hK => ?_)
            go_simp
            exact hK _ _ ⟨.agg #[.int .i64 4, .int .i64 0, .string s], by simp [upd, d6], (fun _ _ h => h), (fun _ => rfl), hj⟩
        · have d6 : r 12 = .bool rb := (hdep _ rfl ⟨6, .guard⟩ (by simp) rfl).2
          have d8 : rb = true → r 14 = .agg #[.int .i64 4, .int .i64 0, .string ⟨#[]⟩] := (hdep _ rfl ⟨8, .data⟩ (by simp) rfl).2
          have d9 : rb = true → r 15 = .agg #[.int .i64 4, .int .i64 0, .string s] := (hdep _ rfl ⟨9, .data⟩ (by simp) rfl).2
          cases rb with
          | false =>
            clear hdep
            refine wpOp_step rfl (fun K hK => ?_)
            go_simp
            exact hK _ _ ⟨undef, by simp [upd, d6], (fun _ _ h => h), (fun e => by cases e), hj⟩
          | true =>
            have d8 := d8 rfl
            have d9 := d9 rfl
            clear hdep
            refine wpOp_step rfl (fun K hK => ?_)
            go_simp
            exact hK _ _ ⟨.bool false, by simp [upd, d6, d8, d9], (fun _ _ h => h), (fun _ => rfl), hj⟩
        · have d6 : r 12 = .bool rb := (hdep _ rfl ⟨6, .data⟩ (by simp) rfl).2
          have d10 : rb = true → r 16 = .bool false := (hdep _ rfl ⟨10, .data⟩ (by simp) rfl).2
          cases rb with
          | false =>
            clear hdep
            refine wpOp_step rfl (fun K hK => ?_)
            go_simp
            exact hK _ _ ⟨.bool false, by simp [upd, d6], (fun _ _ h => h), rfl, hj⟩
          | true =>
            have d10 := d10 rfl
            clear hdep
            refine wpOp_step rfl (fun K hK => ?_)
            go_simp
            exact hK _ _ ⟨.bool false, by simp [upd, d6, d10], (fun _ _ h => h), rfl, hj⟩
        · have d11 : r 17 = .bool (rb && false) := (hdep _ rfl ⟨11, .data⟩ (by simp) rfl).2
          clear hdep
          refine wpOp_step rfl (fun K hK => ?_)
          go_simp
          exact hK _ _ ⟨.bool (rb && false), by simp [upd, d11], (fun _ _ h => h), rfl, hj⟩
      case last =>
        intro D r W hLs hD hj hp
        have d12 : r 2 = .bool (rb && false) := hp 12 (by omega)
        have HE : Hid (Below w.heap.size w W) := Q1.out.trans (hj.mono Q1.out.size)
        clear hp hj
        go_wp2_with fail
        go_ret
        first | exact ⟨ret_bool H.out, HE.out⟩ | exact ⟨by rw [← H.out]; exact congrArg Ending.returned d12, HE.out⟩
  · have h4 : ¬ (0 : Int) = n := by omega
    have h5 : ((0 : Int) == n) = false := by rw [beq_eq_false_iff_ne]; exact h4
    obtain ⟨rb, hrb⟩ : ∃ b, b = (true) := ⟨_, rfl⟩
    have HR : Hid ((true) = rb) := hrb.symm
    have H : Hid ((rb && false) = actB 4 n s) := by subst hrb; rw [Hid]; simp [actB, h2]
    clear hrb
    go_enter Try.func19, Try.ntmps19
    go_wp2_with fail
    refine (deed_4 n s _).mono ?_
    rintro e w1 ⟨rfl, b1⟩
    obtain ⟨hc1, hf1⟩ := bcell b1
    have hz1 : w.heap.size + 1 ≤ w1.heap.size := by have := b1.size; simpa using this
    have hy1 : w.heap.size < w1.heap.size := by omega
    have Q1 : Hid (Below w.heap.size w w1) := ((Below.refl _ _).alloc (Nat.le_refl _) _).trans (b1.mono (by simp))
    clear b1
    go_wp2_with fail
    refine region_rel6 (n := 13) (by kernel_rfl) (by kernel_rfl) (by rfl) (fun r => ⟨#[(.agg #[.int .i64 4, .int .i64 n, .string s]), (.pointer (some ⟨w.heap.size, 0, none⟩)), (r 2), (.iface 103 (.agg #[])), (.agg #[.int .i64 4, .int .i64 n, .string s]), (.iface 103 (.agg #[])), (r 6), (r 7), (r 8), (r 9), (r 10), (r 11), (r 12), (r 13), (r 14), (r 15), (r 16), (r 17)], []⟩) (fun nz => match nz with | 2 => .bool false | _ => undef) (fun iz => [6, 7, 8, 9, 10, 11, 12, 13, 14, 15, 16, 17, 2].getD iz 0) (fun iz jz hi hj h => (by decide : ∀ i, i < 13 → ∀ j, j < 13 → [6, 7, 8, 9, 10, 11, 12, 13, 14, 15, 16, 17, 2].getD i 0 = [6, 7, 8, 9, 10, 11, 12, 13, 14, 15, 16, 17, 2].getD j 0 → i = j) iz hi jz hj h)
      (AcPv (.iface 103 (.agg #[])) (.agg #[.int .i64 4, .int .i64 0, .string ⟨#[]⟩]) (.agg #[.int .i64 4, .int .i64 n, .string s]) rb false) (fun _ _ W => Below w1.heap.size w1 W) (Below.refl _ _).drew ?step ?last
    case step =>
      intro D r W iq hiq hLs hLi hj hdep
      have hx : ∀ o, W.cell? ⟨w.heap.size, o, none⟩ = w1.cell? ⟨w.heap.size, o, none⟩ := fun o => hj.cell hy1
      have hcase : iq = 0 ∨ iq = 1 ∨ iq = 2 ∨ iq = 3 ∨ iq = 4 ∨ iq = 5 ∨ iq = 6 ∨ iq = 7 ∨ iq = 8 ∨ iq = 9 ∨ iq = 10 ∨ iq = 11 ∨ iq = 12 := by omega
      clear hiq
      rcases hcase with rfl | rfl | rfl | rfl | rfl | rfl | rfl | rfl | rfl | rfl | rfl | rfl | rfl
      · clear hdep
        refine wpOp_step rfl (fun K hK => ?_)
        go_simp
        exact hK _ _ ⟨.iface 103 (.agg #[]), by simp [upd], (fun _ _ h => h), rfl, hj⟩
      · have d0 : r 6 = .iface 103 (.agg #[]) := (hdep _ rfl ⟨0, .data⟩ (by simp) rfl).2
        clear hdep
        refine wpOp_step rfl (fun K hK => ?_)
        go_simp
        exact hK _ _ ⟨.bool true, by simp [upd, d0], (fun _ _ h => h), rfl, hj⟩
      · have d1 : r 7 = .bool true := (hdep _ rfl ⟨1, .data⟩ (by simp) rfl).2
        clear hdep
        refine wpOp_step rfl (fun K hK => ?_)
        go_simp
        exact hK _ _ ⟨.bool true, by simp [upd, d1], (fun _ _ h => h), rfl, hj⟩
      · have d2 : r 8 = .bool true := (hdep _ rfl ⟨2, .guard⟩ (by simp) rfl).2
        clear hdep
        refine wpOp_step rfl (fun K hK => ?_)
        go_simp
        exact hK _ _ ⟨.iface 103 (.agg #[]), by simp [upd, d2], (fun _ _ h => h), rfl, hj⟩
      · have d2 : r 8 = .bool true := (hdep _ rfl ⟨2, .guard⟩ (by simp) rfl).2
        have d3 : r 9 = .iface 103 (.agg #[]) := (hdep _ rfl ⟨3, .data⟩ (by simp) rfl).2
        have HJ : Hid _ := hj
        clear hdep
        refine wpOp_step rfl (fun K hK => ?_)
        go_simp
        refine Calls.mono (right_4 n s _ hs) ?_
        rintro e W2 ⟨he, b2⟩
        rw [HR.out] at he
        subst he
        exact hK _ _ ⟨.bool rb, by simp [upd, d2, d3, Act.put], fun _ _ h => h, rfl, HJ.out.trans (b2.mono HJ.out.size)⟩
      · have d2 : r 8 = .bool true := (hdep _ rfl ⟨2, .data⟩ (by simp) rfl).2
        have d4 : r 10 = .bool rb := (hdep _ rfl ⟨4, .data⟩ (by simp) rfl).2
        clear hdep
        refine wpOp_step rfl (fun K hK => ?_)
        go_simp
        exact hK _ _ ⟨.bool rb, by simp [upd, d2, d4], (fun _ _ h => h), rfl, hj⟩
      · have d5 : r 11 = .bool rb := (hdep _ rfl ⟨5, .data⟩ (by simp) rfl).2
        clear hdep
        refine wpOp_step rfl (fun K hK => ?_)
        go_simp
        exact hK _ _ ⟨.bool rb, by simp [upd, d5], (fun _ _ h => h), rfl, hj⟩
      · have d6 : r 12 = .bool rb := (hdep _ rfl ⟨6, .guard⟩ (by simp) rfl).2
        cases rb with
        | false =>
          clear hdep
          refine wpOp_step rfl (fun K hK => ?_)
          go_simp
          exact hK _ _ ⟨undef, by simp [upd, d6], (fun _ _ h => h), (fun e => by cases e), hj⟩
        | true =>
          clear hdep
          refine wpOp_step rfl (fun K hK => ?_)
          go_simp
          exact hK _ _ ⟨.iface 103 (.agg #[]), by simp [upd, d6], (fun _ _ h => h), (fun _ => rfl), hj⟩
      · have d6 : r 12 = .bool rb := (hdep _ rfl ⟨6, .guard⟩ (by simp) rfl).2
        have d7 : rb = true → r 13 = .iface 103 (.agg #[]) := (hdep _ rfl ⟨7, .data⟩ (by simp) rfl).2
        have HJ : Hid _ := hj
        cases rb with
        | false =>
          clear hdep
          refine wpOp_step rfl (fun K hK => ?_)
          go_simp
          exact hK _ _ ⟨undef, by simp [upd, d6], (fun _ _ h => h), (fun e => by cases e), hj⟩
        | true =>
          have d7 := d7 rfl
          clear hdep
          refine wpOp_step rfl (fun K hK => ?_)
          go_simp
          refine Calls.mono (act_4 n s _) ?_
          rintro e W2 ⟨rfl, b2⟩
          exact hK _ _ ⟨.agg #[.int .i64 4, .int .i64 0, .string ⟨#[]⟩], by simp [upd, d6, d7, Act.put], fun _ _ h => h, fun _ => rfl, HJ.out.trans (b2.mono HJ.out.size)⟩
      · have d6 : r 12 = .bool rb := (hdep _ rfl ⟨6, .guard⟩ (by simp) rfl).2
        cases rb with
        | false =>
          clear hdep
          refine wpOp_step rfl (fun K hK => ?_)
          go_simp
          exact hK _ _ ⟨undef, by simp [upd, d6], (fun _ _ h => h), (fun e => by cases e), hj⟩
        | true =>
          have x0 := hx 0
          have x1 := hx 1
          have x2 := hx 2
          rw [hc1 _ _ (by simp)] at x0 x1 x2
          clear hdep
          refine wpOp_step rfl (fun K hK => ?_)
          go_simp
          exact hK _ _ ⟨.agg #[.int .i64 4, .int .i64 n, .string s], by simp [upd, d6], (fun _ _ h => h), (fun _ => rfl), hj⟩
      · have d6 : r 12 = .bool rb := (hdep _ rfl ⟨6, .guard⟩ (by simp) rfl).2
        have d8 : rb = true → r 14 = .agg #[.int .i64 4, .int .i64 0, .string ⟨#[]⟩] := (hdep _ rfl ⟨8, .data⟩ (by simp) rfl).2
        have d9 : rb = true → r 15 = .agg #[.int .i64 4, .int .i64 n, .string s] := (hdep _ rfl ⟨9, .data⟩ (by simp) rfl).2
        cases rb with
        | false =>
          clear hdep
          refine wpOp_step rfl (fun K hK => ?_)
          go_simp
          exact hK _ _ ⟨undef, by simp [upd, d6], (fun _ _ h => h), (fun e => by cases e), hj⟩
        | true =>
          have d8 := d8 rfl
          have d9 := d9 rfl
          clear hdep
          refine wpOp_step rfl (fun K hK => ?_)
          go_simp
          exact hK _ _ ⟨.bool false, by simp [upd, d6, d8, d9], (fun _ _ h => h), (fun _ => rfl), hj⟩
      · have d6 : r 12 = .bool rb := (hdep _ rfl ⟨6, .data⟩ (by simp) rfl).2
        have d10 : rb = true → r 16 = .bool false := (hdep _ rfl ⟨10, .data⟩ (by simp) rfl).2
        cases rb with
        | false =>
          clear hdep
          refine wpOp_step rfl (fun K hK => ?_)
          go_simp
          exact hK _ _ ⟨.bool false, by simp [upd, d6], (fun _ _ h => h), rfl, hj⟩
        | true =>
          have d10 := d10 rfl
          clear hdep
          refine wpOp_step rfl (fun K hK => ?_)
          go_simp
          exact hK _ _ ⟨.bool false, by simp [upd, d6, d10], (fun _ _ h => h), rfl, hj⟩
      · have d11 : r 17 = .bool (rb && false) := (hdep _ rfl ⟨11, .data⟩ (by simp) rfl).2
        clear hdep
        refine wpOp_step rfl (fun K hK => ?_)
        go_simp
        exact hK _ _ ⟨.bool (rb && false), by simp [upd, d11], (fun _ _ h => h), rfl, hj⟩
    case last =>
      intro D r W hLs hD hj hp
      have d12 : r 2 = .bool (rb && false) := hp 12 (by omega)
      have HE : Hid (Below w.heap.size w W) := Q1.out.trans (hj.mono Q1.out.size)
      clear hp hj
      go_wp2_with fail
      go_ret
      first | exact ⟨ret_bool H.out, HE.out⟩ | exact ⟨by rw [← H.out]; exact congrArg Ending.returned d12, HE.out⟩
def AcNv (iz : Nat) (v : Value) (W : World) : Prop := match iz with
  | 0 => v = .nilIface
  | 1 => v = .bool false
  | 2 => v = .bool false
  | 5 => v = .bool false
  | 6 => v = .bool false
  | 11 => v = .bool false
  | 12 => v = .bool false
  | _ => True
set_option maxHeartbeats 4000000 in
set_option maxRecDepth 40000 in
theorem impl_act (k n : Int) (s : ByteArray) (w : World) (hs : s.size ≤ maxLen) :
    Calls Try.prog 19 #[.agg #[.int .i64 k, .int .i64 n, .string s]] w fun e w' => e = .returned (.bool (actB k n s)) ∧ Below w.heap.size w w' := by
  by_cases h1 : k = 1
  · subst h1; exact impl_act_1 n s w hs
  by_cases h2 : k = 2
  · subst h2; exact impl_act_2 n s w hs
  by_cases h3 : k = 3
  · subst h3; exact impl_act_3 n s w hs
  by_cases h4 : k = 4
  · subst h4; exact impl_act_4 n s w hs
  have H : Hid (false = actB k n s) := by
    have : ¬ (1 ≤ k ∧ k ≤ 4) := by omega
    rw [Hid]; simp [actB, this]
  go_enter Try.func19, Try.ntmps19
  go_wp2_with fail
  refine (deed_none k n s _ (by rw [beq_eq_false_iff_ne]; exact h1) (by rw [beq_eq_false_iff_ne]; exact h2) (by rw [beq_eq_false_iff_ne]; exact h3) (by rw [beq_eq_false_iff_ne]; exact h4)).mono ?_
  rintro e w1 ⟨rfl, b1⟩
  have Q1 : Hid (Below w.heap.size w w1) := ((Below.refl _ _).alloc (Nat.le_refl _) _).trans (b1.mono (by simp))
  clear b1
  go_wp2_with fail
  refine region_rel6 (n := 13) (by kernel_rfl) (by kernel_rfl) (by rfl) (fun r => ⟨#[(.agg #[.int .i64 k, .int .i64 n, .string s]), (.pointer (some ⟨w.heap.size, 0, none⟩)), (r 2), .nilIface, (.agg #[.int .i64 k, .int .i64 n, .string s]), .nilIface, (r 6), (r 7), (r 8), (r 9), (r 10), (r 11), (r 12), (r 13), (r 14), (r 15), (r 16), (r 17)], []⟩) (fun nz => match nz with | 2 => .bool false | _ => undef) (fun iz => [6, 7, 8, 9, 10, 11, 12, 13, 14, 15, 16, 17, 2].getD iz 0) (fun iz jz hi hj h => (by decide : ∀ i, i < 13 → ∀ j, j < 13 → [6, 7, 8, 9, 10, 11, 12, 13, 14, 15, 16, 17, 2].getD i 0 = [6, 7, 8, 9, 10, 11, 12, 13, 14, 15, 16, 17, 2].getD j 0 → i = j) iz hi jz hj h)
    AcNv (fun _ _ W => Below w1.heap.size w1 W) (Below.refl _ _).drew ?step ?last
  case step =>
    intro D r W iq hiq hLs hLi hj hdep
    have hcase : iq = 0 ∨ iq = 1 ∨ iq = 2 ∨ iq = 3 ∨ iq = 4 ∨ iq = 5 ∨ iq = 6 ∨ iq = 7 ∨ iq = 8 ∨ iq = 9 ∨ iq = 10 ∨ iq = 11 ∨ iq = 12 := by omega
    clear hiq
    rcases hcase with rfl | rfl | rfl | rfl | rfl | rfl | rfl | rfl | rfl | rfl | rfl | rfl | rfl
    · clear hdep
      refine wpOp_step rfl (fun K hK => ?_)
      go_simp
      exact hK _ _ ⟨.nilIface, by simp [upd], (fun _ _ h => h), rfl, hj⟩
    · have d0 : r 6 = .nilIface := (hdep _ rfl ⟨0, .data⟩ (by simp) rfl).2
      clear hdep
      refine wpOp_step rfl (fun K hK => ?_)
      go_simp
      exact hK _ _ ⟨.bool false, by simp [upd, d0], (fun _ _ h => h), rfl, hj⟩
    · have d1 : r 7 = .bool false := (hdep _ rfl ⟨1, .data⟩ (by simp) rfl).2
      clear hdep
      refine wpOp_step rfl (fun K hK => ?_)
      go_simp
      exact hK _ _ ⟨.bool false, by simp [upd, d1], (fun _ _ h => h), rfl, hj⟩
    · have d2 : r 8 = .bool false := (hdep _ rfl ⟨2, .guard⟩ (by simp) rfl).2
      clear hdep
      refine wpOp_step rfl (fun K hK => ?_)
      go_simp
      exact hK _ _ ⟨undef, by simp [upd, d2], (fun _ _ h => h), trivial, hj⟩
    · have d2 : r 8 = .bool false := (hdep _ rfl ⟨2, .guard⟩ (by simp) rfl).2
      clear hdep
      refine wpOp_step rfl (fun K hK => ?_)
      go_simp
      exact hK _ _ ⟨undef, by simp [upd, d2], (fun _ _ h => h), trivial, hj⟩
    · have d2 : r 8 = .bool false := (hdep _ rfl ⟨2, .data⟩ (by simp) rfl).2
      clear hdep
      refine wpOp_step rfl (fun K hK => ?_)
      go_simp
      exact hK _ _ ⟨.bool false, by simp [upd, d2], (fun _ _ h => h), rfl, hj⟩
    · have d5 : r 11 = .bool false := (hdep _ rfl ⟨5, .data⟩ (by simp) rfl).2
      clear hdep
      refine wpOp_step rfl (fun K hK => ?_)
      go_simp
      exact hK _ _ ⟨.bool false, by simp [upd, d5], (fun _ _ h => h), rfl, hj⟩
    · have d6 : r 12 = .bool false := (hdep _ rfl ⟨6, .guard⟩ (by simp) rfl).2
      clear hdep
      refine wpOp_step rfl (fun K hK => ?_)
      go_simp
      exact hK _ _ ⟨undef, by simp [upd, d6], (fun _ _ h => h), trivial, hj⟩
    · have d6 : r 12 = .bool false := (hdep _ rfl ⟨6, .guard⟩ (by simp) rfl).2
      clear hdep
      refine wpOp_step rfl (fun K hK => ?_)
      go_simp
      exact hK _ _ ⟨undef, by simp [upd, d6], (fun _ _ h => h), trivial, hj⟩
    · have d6 : r 12 = .bool false := (hdep _ rfl ⟨6, .guard⟩ (by simp) rfl).2
      clear hdep
      refine wpOp_step rfl (fun K hK => ?_)
      go_simp
      exact hK _ _ ⟨undef, by simp [upd, d6], (fun _ _ h => h), trivial, hj⟩
    · have d6 : r 12 = .bool false := (hdep _ rfl ⟨6, .guard⟩ (by simp) rfl).2
      clear hdep
      refine wpOp_step rfl (fun K hK => ?_)
      go_simp
      exact hK _ _ ⟨undef, by simp [upd, d6], (fun _ _ h => h), trivial, hj⟩
    · have d6 : r 12 = .bool false := (hdep _ rfl ⟨6, .data⟩ (by simp) rfl).2
      clear hdep
      refine wpOp_step rfl (fun K hK => ?_)
      go_simp
      exact hK _ _ ⟨.bool false, by simp [upd, d6], (fun _ _ h => h), rfl, hj⟩
    · have d11 : r 17 = .bool false := (hdep _ rfl ⟨11, .data⟩ (by simp) rfl).2
      clear hdep
      refine wpOp_step rfl (fun K hK => ?_)
      go_simp
      exact hK _ _ ⟨.bool false, by simp [upd, d11], (fun _ _ h => h), rfl, hj⟩
  case last =>
    intro D r W hLs hD hj hp
    have d12 : r 2 = .bool false := hp 12 (by omega)
    have HE : Hid (Below w.heap.size w W) := Q1.out.trans (hj.mono Q1.out.size)
    clear hp hj
    go_wp2_with fail
    go_ret
    first | exact ⟨ret_bool H.out, HE.out⟩ | exact ⟨by rw [← H.out]; exact congrArg Ending.returned d12, HE.out⟩
end Go.Proofs.Ytiehcmdhfeeomaa
