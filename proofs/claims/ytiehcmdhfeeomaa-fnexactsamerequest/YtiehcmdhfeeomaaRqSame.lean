/- Alike requests, on both sides: written by wip/tools/rqsame.py. -/
import Derived.Test.YtiehcmdhfeeomaaRqTo
import Derived.Test.YtiehcmdhfeeomaaRqText
import Derived.Test.YtiehcmdhfeeomaaDocSameFour
import Derived.Deep.RegionWith
namespace Go.Proofs.Ytiehcmdhfeeomaa
open Go.ChangeShapes Go.WideShapes Go.ChangeAt Go.RowKit
set_option linter.unusedVariables false

set_option maxRecDepth 100000 in
theorem bq_und : Try.prog.underlying 93 = some (.struct (Try.prog.fieldsOf 93)) := by kernel_rfl
theorem bq_held : Try.prog.stoodInHeld 93 = false := by kernel_rfl
theorem bq_guard : Try.prog.eqGuardType Try.prog.depth 93 = false := by kernel_rfl
theorem bq_p0 (w : World) (s : ByteArray) (a b : Int) (t : ByteArray) : (part 9 #[.string s, .int .i64 a, .int .i64 b, .string t] 0).run Try.prog w = .ok (.string s) w := by kernel_rfl
theorem bq_p1 (w : World) (s : ByteArray) (a b : Int) (t : ByteArray) : (part 91 #[.string s, .int .i64 a, .int .i64 b, .string t] 1).run Try.prog w = .ok (.agg #[.int .i64 a, .int .i64 b, .string t]) w := by kernel_rfl
set_option maxRecDepth 100000 in
theorem bq_neq (x y : Ar) (w : World) : (binOp .neq 93 (.agg #[.string x.nm, .int .i64 x.v.k, .int .i64 x.v.n, .string x.v.t]) (.agg #[.string y.nm, .int .i64 y.v.k, .int .i64 y.v.n, .string y.v.t])).run Try.prog w = .ok (.bool (!((x.nm.toList == y.nm.toList) && vaEq x.v y.v))) w := by
  rw [run_neq_struct, run_equalIn_agg w _ _ _ _ bq_und bq_held]
  have hf : ∃ f0 f1 : Field, (Try.prog.fieldsOf 93).toList = [f0, f1] ∧ f0.name ≠ "_" ∧ f1.name ≠ "_" ∧ f0.type = 9 ∧ f0.offset = 0 ∧ f1.type = 91 ∧ f1.offset = 1 := by
    refine ⟨_, _, rfl, ?_, ?_, ?_, ?_, ?_, ?_⟩ <;> decide +kernel
  obtain ⟨f0, f1, hl, n0, n1, t0, o0, t1, o1⟩ := hf
  rw [hl]
  simp only [Op.eqFields, n0, n1, ne_eq, not_false_eq_true, if_true, t0, o0, t1, o1, Sem.run_bind, bq_p0, Result.andThen_ok]
  rw [run_equalIn_string w _ _ _ _ Try.underlying9]
  simp only [Result.andThen_ok, Sem.run_ite]
  cases (x.nm.toList == y.nm.toList)
  · simp
  · simp only [Bool.not_true, Bool.false_eq_true, if_false, Sem.run_bind, bq_p1, Result.andThen_ok]
    rw [va_equal]
    cases vaEq x.v y.v <;> simp
set_option maxHeartbeats 2000000 in
theorem same_bq (a a' : Option Addr) (c c' : Nat) (l l' : List Ar) (w : World) (hr : ArRow 0 w.heap.size w a l) (hr' : ArRow 0 w.heap.size w a' l') (hl : l.length ≤ 1048576) (hl' : l'.length ≤ 1048576) :
    Calls Try.prog 52 #[.slice a l.length c, .slice a' l'.length c'] w fun e w' => Says (l = l') e ∧ Below w.heap.size w w' := by
  by_cases hll : l.length = l'.length
  case neg =>
    have HN : Hid (¬ l = l') := fun h => hll (congrArg _ h)
    have h1 : ((l.length : Int) == (l'.length : Int)) = false := by rw [beq_eq_false_iff_ne]; omega
    have h2 : ((l.length : Int) != (l'.length : Int)) = true := by rw [bne, h1]; rfl
    go_enter Try.func52, Try.ntmps52
    go_wp2_with fail
    go_ret
    exact ⟨Says.no HN.out, Below.refl _ _⟩
  have HR : Hid (ArRow 0 w.heap.size w a l) := hr
  have HR' : Hid (ArRow 0 w.heap.size w a' l') := hr'
  have HLL : Hid (l.length = l'.length) := hll
  have hl2 : (l'.length : Int) = (l.length : Int) := by omega
  clear hr hr' hll
  rw [← HLL.out]
  go_enter Try.func52, Try.ntmps52
  go_wp2_with fail
  go_loopw [13] (fun i w' => ∃ (k : Nat), k ≤ l.length ∧ i = .int .i64 k ∧ Below w.heap.size w w' ∧ Hid (l.take k = l'.take k)) (fun i _ => l.length - (intOf i).toNat)
  case atStart => exact ⟨0, by omega, rfl, Below.refl _ _, rfl⟩
  case round =>
    obtain ⟨k, hk, rfl, hb, HA⟩ := hrel
    by_cases hlt : k < l.length
    · have hlt2 : k < l'.length := by have := HLL.out; omega
      have hlt3 : (k : Int) < l.length := by omega
      obtain ⟨b, o, ha, _, hbl, d0, d1, d2, d3⟩ := Row.cells_ar (Row.keep HR.out (Below.agree hb (Nat.le_refl _))) k hlt
      obtain ⟨b', o', ha', _, hbl', f0, f1, f2, f3⟩ := Row.cells_ar (Row.keep HR'.out (Below.agree hb (Nat.le_refl _))) k hlt2
      subst ha
      subst ha'
      have hneq := bq_neq l[k] l'[k]
      have hgd := bq_guard
      cases hn : (l[k].nm.toList == l'[k].nm.toList)
      · have HN : Hid (¬ l = l') := take_ne hlt hlt2 (fun h => str_ne hn (congrArg _ h))
        go_wp2_with fail
        go_quiet (fail)
        go_wp2_with fail
        go_ret
        exact ⟨Says.no HN.out, hb.trans (by exact ⟨rfl, rfl, rfl, Nat.le_refl _, fun _ _ => rfl⟩)⟩
      cases hd : vaEq l[k].v l'[k].v
      · have HN : Hid (¬ l = l') := take_ne hlt hlt2 (fun h => va_no hd (congrArg _ h))
        go_wp2_with fail
        go_quiet (fail)
        go_wp2_with fail
        go_ret
        exact ⟨Says.no HN.out, hb.trans (by exact ⟨rfl, rfl, rfl, Nat.le_refl _, fun _ _ => rfl⟩)⟩
      · have HN : Hid (l.take (k + 1) = l'.take (k + 1)) := take_eq HA.out hlt hlt2 (by
          have h1 : l[k].nm = l'[k].nm := str_eq hn
          have h2 := va_yes hd
          cases hx : l[k] with | mk a1 a2 => cases hy : l'[k] with | mk b1 b2 => rw [hx, hy] at h1 h2; simp only at h1 h2; rw [h1, h2])
        go_wp2_with fail
        go_quiet (fail)
        go_wp2_with fail
        go_roundw
        case rel => exact ⟨k + 1, by omega, by go_num, hb.trans (by exact ⟨rfl, rfl, rfl, Nat.le_refl _, fun _ _ => rfl⟩), HN⟩
        case measure => simp [intOf]; omega
    · have HN : Hid (l = l') := by
        have h1 := HA.out
        have h2 := HLL.out
        rw [List.take_of_length_le (by omega), List.take_of_length_le (by omega)] at h1
        exact h1
      go_wp2_with fail
      go_ret
      exact ⟨Says.yes HN.out, hb⟩
def BothReq (l l' : List De) (v v' : List Ar) : Prop := reqB l v = true ∧ reqB l' v' = true ∧ l = l' ∧ v = v'
theorem req_doc {l : List De} {v : List Ar} (h : reqB l v = true) : docB l = true := by
  unfold reqB at h; rw [Bool.and_eq_true] at h; exact h.1
theorem req_bind {l : List De} {v : List Ar} (h : reqB l v = true) : bindB v = true := by
  unfold reqB at h; rw [Bool.and_eq_true] at h; exact h.2
theorem spec_req_yes (a b : Option Addr) (c d : Nat) (l : List De) (v : List Ar) (w : World) (hr : DeRow 0 w.heap.size w a l) (hv : ArRow 0 w.heap.size w b v) (hb : RqBd 1048576 l v) (h : reqB l v = true) :
    Calls Try.prog 28 #[.agg #[.slice a l.length c, .slice b v.length d]] w fun e w' => e = .returned (.bool true) ∧ Below w.heap.size w w' := by
  refine (spec_req a b c d l v w hr hv hb).mono ?_
  rw [h]
  exact fun e w' hh => hh
theorem spec_req_no (a b : Option Addr) (c d : Nat) (l : List De) (v : List Ar) (w : World) (hr : DeRow 0 w.heap.size w a l) (hv : ArRow 0 w.heap.size w b v) (hb : RqBd 1048576 l v) (h : ¬ reqB l v = true) :
    Calls Try.prog 28 #[.agg #[.slice a l.length c, .slice b v.length d]] w fun e w' => e = .returned (.bool false) ∧ Below w.heap.size w w' := by
  refine (spec_req a b c d l v w hr hv hb).mono ?_
  rw [Bool.not_eq_true] at h
  rw [h]
  exact fun e w' hh => hh
theorem impl_req_yes (a b : Option Addr) (c d : Nat) (l : List De) (v : List Ar) (w : World) (hr : DeRow 0 w.heap.size w a l) (hv : ArRow 0 w.heap.size w b v) (hb : RqBd 1048576 l v) (h : reqB l v = true) :
    Calls Try.prog 31 #[.agg #[.slice a l.length c, .slice b v.length d]] w fun e w' => e = .returned (.bool true) ∧ Below w.heap.size w w' := by
  refine (impl_req a b c d l v w hr hv hb).mono ?_
  rw [h]
  exact fun e w' hh => hh
theorem impl_req_no (a b : Option Addr) (c d : Nat) (l : List De) (v : List Ar) (w : World) (hr : DeRow 0 w.heap.size w a l) (hv : ArRow 0 w.heap.size w b v) (hb : RqBd 1048576 l v) (h : ¬ reqB l v = true) :
    Calls Try.prog 31 #[.agg #[.slice a l.length c, .slice b v.length d]] w fun e w' => e = .returned (.bool false) ∧ Below w.heap.size w w' := by
  refine (impl_req a b c d l v w hr hv hb).mono ?_
  rw [Bool.not_eq_true] at h
  rw [h]
  exact fun e w' hh => hh
theorem spec_text_t (a b : Option Addr) (c d : Nat) (l : List De) (v : List Ar) (w : World) (hr : DeRow 0 w.heap.size w a l) (hv : ArRow 0 w.heap.size w b v) (h : reqB l v = true) :
    Calls Try.prog 29 #[.agg #[.slice a l.length c, .slice b v.length d]] w fun e w' => ∃ t, e = .returned (.string t) ∧ nl t = reqP l v ∧ Below w.heap.size w w' := by
  refine (spec_reqText a b c d l v w hr hv (doc_all (req_doc h)).1 (doc_all (req_doc h)).2 (bind_all (req_bind h)).1 (bind_all (req_bind h)).2).mono ?_
  rintro e w' ⟨rfl, hb⟩
  exact ⟨_, rfl, nl_bl _, hb⟩
set_option maxHeartbeats 8000000 in
set_option maxRecDepth 40000 in
theorem spec_sameReq (a a' b b' : Option Addr) (c c' d d' : Nat) (l l' : List De) (v v' : List Ar) (w : World) (hr : DeRow 0 w.heap.size w a l) (hr' : DeRow 0 w.heap.size w a' l') (hv : ArRow 0 w.heap.size w b v) (hv' : ArRow 0 w.heap.size w b' v') (hb : RqBd 1048576 l v) (hb' : RqBd 1048576 l' v') :
    Calls Try.prog 12 #[.agg #[.slice a l.length c, .slice b v.length d], .agg #[.slice a' l'.length c', .slice b' v'.length d']] w fun e w' => Says (BothReq l l' v v') e ∧ Below w.heap.size w w' := by
  have K3 : Hid (∀ W0, Below w.heap.size w W0 → DeRow 0 W0.heap.size W0 a l ∧ DeRow 0 W0.heap.size W0 a' l' ∧ ArRow 0 W0.heap.size W0 b v ∧ ArRow 0 W0.heap.size W0 b' v') := fun W0 hB => ⟨DeRow.up hr hB, DeRow.up hr' hB, Row.up hv hB, Row.up hv' hB⟩
  have HX : Hid (RqBd 1048576 l v) := hb
  have HY : Hid (RqBd 1048576 l' v') := hb'
  clear hr hr' hv hv' hb hb'
  obtain ⟨W, hW⟩ : ∃ V, V = (w.alloc (.cells #[.slice a l.length c, .slice b v.length d] 39)).alloc (.cells #[.slice a' l'.length c', .slice b' v'.length d'] 39) := ⟨_, rfl⟩
  have P0 : Hid (Below w.heap.size w W) := by rw [Hid, hW]; exact ((Below.refl _ _).alloc (Nat.le_refl _) _).alloc (by simp) _
  have z0 : w.heap.size + 2 ≤ W.heap.size := by rw [hW]; simp
  have x0 : W.heap[w.heap.size]? = some (.cells #[.slice a l.length c, .slice b v.length d] 39 (0, 0)) := by
    rw [hW, Below.heap_alloc _ _ _ (by simp)]; exact heap_alloc_new _ _
  have y0 : W.heap[w.heap.size + 1]? = some (.cells #[.slice a' l'.length c', .slice b' v'.length d'] 39 (0, 0)) := by
    rw [hW]
    have := heap_alloc_new (w.alloc (.cells #[.slice a l.length c, .slice b v.length d] 39)) (.cells #[.slice a' l'.length c', .slice b' v'.length d'] 39)
    simpa using this
  have c0 := fun o => row_cell x0 o
  have e0 := fun o => row_cell y0 o
  have QW : Hid (∀ W', Below W.heap.size W W' → (∀ o, W'.cell? ⟨w.heap.size, o, none⟩ = (#[.slice a l.length c, .slice b v.length d] : Array Value)[o]?) ∧ (∀ o, W'.cell? ⟨w.heap.size + 1, o, none⟩ = (#[.slice a' l'.length c', .slice b' v'.length d'] : Array Value)[o]?) ∧ Below w.heap.size w W') := fun W' hB =>
    ⟨fun o => row_cell ((hB.block _ (by omega)).trans x0) o, fun o => row_cell ((hB.block _ (by omega)).trans y0) o, P0.out.trans (hB.mono (by omega))⟩
  clear x0 y0
  by_cases h1 : reqB l v = true
  case neg =>
    have HN : Hid (¬ BothReq l l' v v') := fun h => h1 h.1
    go_enter Try.func12, Try.ntmps12
    go_wp2_with fail
    rw [← hW]
    clear hW
    go_region_with (
      go_at_call 28
      refine Calls.mono (spec_req_no a b c d l v _ (K3.out _ ?hb).1 (K3.out _ ?hb).2.2.1 HX.out h1) ?_
      case hb => exact P0.out.drew
      rintro e w1 ⟨rfl, hb1⟩
      have P1 : Hid (Below w.heap.size w w1) := P0.out.drew.trans (hb1.mono (by have : W.drew.heap.size = W.heap.size := rfl; omega))
      clear hb1)
    all_goals
      go_wp2_with fail
      go_ret
      exact ⟨Says.no HN.out, P1.out⟩
  by_cases h2 : reqB l' v' = true
  case neg =>
    have HN : Hid (¬ BothReq l l' v v') := fun h => h2 h.2.1
    go_enter Try.func12, Try.ntmps12
    go_wp2_with fail
    rw [← hW]
    clear hW
    go_region_with (first
      | (go_at_call_of 28 l
         refine Calls.mono (spec_req_yes a b c d l v _ (K3.out _ ?hb).1 (K3.out _ ?hb).2.2.1 HX.out h1) ?_
         case hb => exact P0.out.drew
         rintro e w1 ⟨rfl, hb1⟩
         have P1 : Hid (Below w.heap.size w w1) := P0.out.drew.trans (hb1.mono (by have : W.drew.heap.size = W.heap.size := rfl; omega))
         have e1 := fun o => (hb1.cell (p := ⟨w.heap.size + 1, o, none⟩) (show w.heap.size + 1 < W.heap.size by omega)).trans (e0 o)
         clear hb1)
      | (go_at_call_of 28 l'
         refine Calls.mono (spec_req_no a' b' c' d' l' v' _ (K3.out _ ?hb).2.1 (K3.out _ ?hb).2.2.2 HY.out h2) ?_
         case hb => exact P1.out
         rintro e w2 ⟨rfl, hb2⟩
         have P2 : Hid (Below w.heap.size w w2) := P1.out.trans (hb2.mono P1.out.size)
         clear hb2))
    all_goals
      go_wp2_with fail
      go_ret
      exact ⟨Says.no HN.out, P2.out⟩
  go_enter Try.func12, Try.ntmps12
  go_wp2_with fail
  rw [← hW]
  clear hW
  go_region_with (first
    | (go_at_call_of 28 l
       refine Calls.mono (spec_req_yes a b c d l v _ (K3.out _ ?hb).1 (K3.out _ ?hb).2.2.1 HX.out h1) ?_
       case hb => exact P0.out.drew
       rintro e w1 ⟨rfl, hb1⟩
       have P1 : Hid (Below w.heap.size w w1) := P0.out.drew.trans (hb1.mono (by have : W.drew.heap.size = W.heap.size := rfl; omega))
       have z1 : w.heap.size + 2 ≤ w1.heap.size := by have := hb1.size; have : W.drew.heap.size = W.heap.size := rfl; omega
       have c1 := fun o => (hb1.cell (p := ⟨w.heap.size, o, none⟩) (show w.heap.size < W.heap.size by omega)).trans (c0 o)
       have e1 := fun o => (hb1.cell (p := ⟨w.heap.size + 1, o, none⟩) (show w.heap.size + 1 < W.heap.size by omega)).trans (e0 o)
       clear hb1)
    | (go_at_call_of 28 l'
       refine Calls.mono (spec_req_yes a' b' c' d' l' v' _ (K3.out _ ?hb).2.1 (K3.out _ ?hb).2.2.2 HY.out h2) ?_
       case hb => exact P1.out
       rintro e w2 ⟨rfl, hb2⟩
       have P2 : Hid (Below w.heap.size w w2) := P1.out.trans (hb2.mono P1.out.size)
       have z2 : w.heap.size + 2 ≤ w2.heap.size := by have := hb2.size; omega
       have c2 := fun o => (hb2.cell (p := ⟨w.heap.size, o, none⟩) (show w.heap.size < w1.heap.size by omega)).trans (c1 o)
       have e2 := fun o => (hb2.cell (p := ⟨w.heap.size + 1, o, none⟩) (show w.heap.size + 1 < w1.heap.size by omega)).trans (e1 o)
       clear hb2)
    | (go_at_call_of 29 l
       refine Calls.mono (spec_text_t a b c d l v _ (K3.out _ ?hb).1 (K3.out _ ?hb).2.2.1 h1) ?_
       case hb => exact P2.out
       rintro e w3 ⟨t, rfl, ht, hb3⟩
       have HT : Hid (nl t = reqP l v) := ht
       have P3 : Hid (Below w.heap.size w w3) := P2.out.trans (hb3.mono P2.out.size)
       have z3 : w.heap.size + 2 ≤ w3.heap.size := by have := hb3.size; omega
       have e3 := fun o => (hb3.cell (p := ⟨w.heap.size + 1, o, none⟩) (show w.heap.size + 1 < w2.heap.size by omega)).trans (e2 o)
       clear hb3 ht)
    | (go_at_call_of 29 l'
       refine Calls.mono (spec_text_t a' b' c' d' l' v' _ (K3.out _ ?hb).2.1 (K3.out _ ?hb).2.2.2 h2) ?_
       case hb => exact P3.out
       rintro e w4 ⟨u, rfl, hu, hb4⟩
       have HU : Hid (nl u = reqP l' v') := hu
       have P4 : Hid (Below w.heap.size w w4) := P3.out.trans (hb4.mono P3.out.size)
       clear hb4 hu))
  all_goals
    cases he : (t.toList == u.toList)
    · have HN : Hid (¬ BothReq l l' v v') := fun h => by
        have h3 := HT.out
        rw [h.2.2.1, h.2.2.2, ← HU.out] at h3
        exact str_ne he (nl_inj h3)
      go_wp2_with fail
      go_ret
      exact ⟨Says.no HN.out, P4.out⟩
    · have HN : Hid (BothReq l l' v v') := by
        have h3 := req_inj (req_doc h1) (req_doc h2) (req_bind h1) (req_bind h2) (by rw [← HT.out, ← HU.out, str_eq he])
        exact ⟨h1, h2, h3.1, h3.2⟩
      go_wp2_with fail
      go_ret
      exact ⟨Says.yes HN.out, P4.out⟩
set_option maxHeartbeats 8000000 in
set_option maxRecDepth 40000 in
theorem impl_sameRq (a a' b b' : Option Addr) (c c' d d' : Nat) (l l' : List De) (v v' : List Ar) (w : World) (hr : DeRow 0 w.heap.size w a l) (hr' : DeRow 0 w.heap.size w a' l') (hv : ArRow 0 w.heap.size w b v) (hv' : ArRow 0 w.heap.size w b' v') (hb : RqBd 1048576 l v) (hb' : RqBd 1048576 l' v') (h1 : reqB l v = true) (h2 : reqB l' v' = true) :
    Calls Try.prog 32 #[.agg #[.slice a l.length c, .slice b v.length d], .agg #[.slice a' l'.length c', .slice b' v'.length d']] w fun e w' => Says (l = l' ∧ v = v') e ∧ Below w.heap.size w w' := by
  have K3 : Hid (∀ W0, Below w.heap.size w W0 → DeRow 0 W0.heap.size W0 a l ∧ DeRow 0 W0.heap.size W0 a' l' ∧ ArRow 0 W0.heap.size W0 b v ∧ ArRow 0 W0.heap.size W0 b' v') := fun W0 hB => ⟨DeRow.up hr hB, DeRow.up hr' hB, Row.up hv hB, Row.up hv' hB⟩
  have HX : Hid (RqBd 1048576 l v) := hb
  have HY : Hid (RqBd 1048576 l' v') := hb'
  have HD : Hid (docB l = true ∧ docB l' = true) := ⟨req_doc h1, req_doc h2⟩
  clear hr hr' hv hv' hb hb' h1 h2
  obtain ⟨W, hW⟩ : ∃ V, V = (w.alloc (.cells #[.slice a l.length c, .slice b v.length d] 39)).alloc (.cells #[.slice a' l'.length c', .slice b' v'.length d'] 39) := ⟨_, rfl⟩
  have P0 : Hid (Below w.heap.size w W) := by rw [Hid, hW]; exact ((Below.refl _ _).alloc (Nat.le_refl _) _).alloc (by simp) _
  have z0 : w.heap.size + 2 ≤ W.heap.size := by rw [hW]; simp
  have x0 : W.heap[w.heap.size]? = some (.cells #[.slice a l.length c, .slice b v.length d] 39 (0, 0)) := by
    rw [hW, Below.heap_alloc _ _ _ (by simp)]; exact heap_alloc_new _ _
  have y0 : W.heap[w.heap.size + 1]? = some (.cells #[.slice a' l'.length c', .slice b' v'.length d'] 39 (0, 0)) := by
    rw [hW]
    have := heap_alloc_new (w.alloc (.cells #[.slice a l.length c, .slice b v.length d] 39)) (.cells #[.slice a' l'.length c', .slice b' v'.length d'] 39)
    simpa using this
  have c0 := fun o => row_cell x0 o
  have e0 := fun o => row_cell y0 o
  have QW : Hid (∀ W', Below W.heap.size W W' → (∀ o, W'.cell? ⟨w.heap.size, o, none⟩ = (#[.slice a l.length c, .slice b v.length d] : Array Value)[o]?) ∧ (∀ o, W'.cell? ⟨w.heap.size + 1, o, none⟩ = (#[.slice a' l'.length c', .slice b' v'.length d'] : Array Value)[o]?) ∧ Below w.heap.size w W') := fun W' hB =>
    ⟨fun o => row_cell ((hB.block _ (by omega)).trans x0) o, fun o => row_cell ((hB.block _ (by omega)).trans y0) o, P0.out.trans (hB.mono (by omega))⟩
  clear x0 y0
  go_enter Try.func32, Try.ntmps32
  go_wp2_with fail
  rw [← hW]
  clear hW
  refine (impl_sameD a a' c c' l l' _ (K3.out _ P0.out).1 (K3.out _ P0.out).2.1 HX.out.1 HY.out.1 HD.out.1 HD.out.2).mono ?_
  rintro e w3 ⟨⟨bd, rfl, hbd⟩, hb3⟩
  have HBD : Hid (Bl (l = l') bd) := hbd
  have G3 : Hid (Below W.heap.size W w3) := hb3
  have P3 : Hid (Below w.heap.size w w3) := P0.out.trans (hb3.mono P0.out.size)
  have c3 := (QW.out _ G3.out).1
  have e3 := (QW.out _ G3.out).2.1
  clear hb3 c0 e0 hbd
  cases bd with
  | false =>
    have HN : Hid (¬ (l = l' ∧ v = v')) := fun h => by
      rcases HBD.out with ⟨h3, _⟩ | ⟨_, h3⟩
      · cases h3
      · exact h3 h.1
    go_wp2_with fail
    go_ret
    exact ⟨Says.no HN.out, P3.out⟩
  | true =>
    have HLE : Hid (l = l') := by
      rcases HBD.out with ⟨_, h3⟩ | ⟨h3, _⟩
      · exact h3
      · cases h3
    clear HBD
    go_wp2_with fail
    refine (same_bq b b' d d' v v' _ (K3.out _ P3.out).2.2.1 (K3.out _ P3.out).2.2.2 HX.out.2.1 HY.out.2.1).mono ?_
    rintro e w4 ⟨⟨bv, rfl, hbv⟩, hb4⟩
    have HBV : Hid (Bl (v = v') bv) := hbv
    have P4 : Hid (Below w.heap.size w w4) := P3.out.trans (hb4.mono P3.out.size)
    clear hb4 hbv
    go_wp2_with fail
    go_ret
    refine ⟨⟨bv, rfl, ?_⟩, P4.out⟩
    rcases HBV.out with ⟨h3, h4⟩ | ⟨h3, h4⟩
    · exact .inl ⟨h3, HLE.out, h4⟩
    · exact .inr ⟨h3, fun h => h4 h.2⟩
set_option maxHeartbeats 8000000 in
set_option maxRecDepth 40000 in
theorem impl_sameReq (a a' b b' : Option Addr) (c c' d d' : Nat) (l l' : List De) (v v' : List Ar) (w : World) (hr : DeRow 0 w.heap.size w a l) (hr' : DeRow 0 w.heap.size w a' l') (hv : ArRow 0 w.heap.size w b v) (hv' : ArRow 0 w.heap.size w b' v') (hb : RqBd 1048576 l v) (hb' : RqBd 1048576 l' v') :
    Calls Try.prog 14 #[.agg #[.slice a l.length c, .slice b v.length d], .agg #[.slice a' l'.length c', .slice b' v'.length d']] w fun e w' => Says (BothReq l l' v v') e ∧ Below w.heap.size w w' := by
  have K3 : Hid (∀ W0, Below w.heap.size w W0 → DeRow 0 W0.heap.size W0 a l ∧ DeRow 0 W0.heap.size W0 a' l' ∧ ArRow 0 W0.heap.size W0 b v ∧ ArRow 0 W0.heap.size W0 b' v') := fun W0 hB => ⟨DeRow.up hr hB, DeRow.up hr' hB, Row.up hv hB, Row.up hv' hB⟩
  have HX : Hid (RqBd 1048576 l v) := hb
  have HY : Hid (RqBd 1048576 l' v') := hb'
  clear hr hr' hv hv' hb hb'
  obtain ⟨W, hW⟩ : ∃ V, V = (w.alloc (.cells #[.slice a l.length c, .slice b v.length d] 39)).alloc (.cells #[.slice a' l'.length c', .slice b' v'.length d'] 39) := ⟨_, rfl⟩
  have P0 : Hid (Below w.heap.size w W) := by rw [Hid, hW]; exact ((Below.refl _ _).alloc (Nat.le_refl _) _).alloc (by simp) _
  have z0 : w.heap.size + 2 ≤ W.heap.size := by rw [hW]; simp
  have x0 : W.heap[w.heap.size]? = some (.cells #[.slice a l.length c, .slice b v.length d] 39 (0, 0)) := by
    rw [hW, Below.heap_alloc _ _ _ (by simp)]; exact heap_alloc_new _ _
  have y0 : W.heap[w.heap.size + 1]? = some (.cells #[.slice a' l'.length c', .slice b' v'.length d'] 39 (0, 0)) := by
    rw [hW]
    have := heap_alloc_new (w.alloc (.cells #[.slice a l.length c, .slice b v.length d] 39)) (.cells #[.slice a' l'.length c', .slice b' v'.length d'] 39)
    simpa using this
  have c0 := fun o => row_cell x0 o
  have e0 := fun o => row_cell y0 o
  have QW : Hid (∀ W', Below W.heap.size W W' → (∀ o, W'.cell? ⟨w.heap.size, o, none⟩ = (#[.slice a l.length c, .slice b v.length d] : Array Value)[o]?) ∧ (∀ o, W'.cell? ⟨w.heap.size + 1, o, none⟩ = (#[.slice a' l'.length c', .slice b' v'.length d'] : Array Value)[o]?) ∧ Below w.heap.size w W') := fun W' hB =>
    ⟨fun o => row_cell ((hB.block _ (by omega)).trans x0) o, fun o => row_cell ((hB.block _ (by omega)).trans y0) o, P0.out.trans (hB.mono (by omega))⟩
  clear x0 y0
  go_enter Try.func14, Try.ntmps14
  go_wp2_with fail
  rw [← hW]
  clear hW
  by_cases h1 : reqB l v = true
  case neg =>
    have HN : Hid (¬ BothReq l l' v v') := fun h => h1 h.1
    refine (impl_req_no a b c d l v _ (K3.out _ P0.out).1 (K3.out _ P0.out).2.2.1 HX.out h1).mono ?_
    rintro e w1 ⟨rfl, hb1⟩
    have P1 : Hid (Below w.heap.size w w1) := P0.out.trans (hb1.mono P0.out.size)
    go_wp2_with fail
    go_ret
    exact ⟨Says.no HN.out, P1.out⟩
  refine (impl_req_yes a b c d l v _ (K3.out _ P0.out).1 (K3.out _ P0.out).2.2.1 HX.out h1).mono ?_
  rintro e w1 ⟨rfl, hb1⟩
  have G1 : Hid (Below W.heap.size W w1) := hb1
  have P1 : Hid (Below w.heap.size w w1) := P0.out.trans (hb1.mono P0.out.size)
  have c1 := (QW.out _ G1.out).1
  have e1 := (QW.out _ G1.out).2.1
  clear hb1 c0 e0
  go_wp2_with fail
  by_cases h2 : reqB l' v' = true
  case neg =>
    have HN : Hid (¬ BothReq l l' v v') := fun h => h2 h.2.1
    refine (impl_req_no a' b' c' d' l' v' _ (K3.out _ P1.out).2.1 (K3.out _ P1.out).2.2.2 HY.out h2).mono ?_
    rintro e w2 ⟨rfl, hb2⟩
    have P2 : Hid (Below w.heap.size w w2) := P1.out.trans (hb2.mono P1.out.size)
    go_wp2_with fail
    go_ret
    exact ⟨Says.no HN.out, P2.out⟩
  refine (impl_req_yes a' b' c' d' l' v' _ (K3.out _ P1.out).2.1 (K3.out _ P1.out).2.2.2 HY.out h2).mono ?_
  rintro e w2 ⟨rfl, hb2⟩
  have G2 : Hid (Below W.heap.size W w2) := G1.out.trans (hb2.mono G1.out.size)
  have P2 : Hid (Below w.heap.size w w2) := P1.out.trans (hb2.mono P1.out.size)
  have c2 := (QW.out _ G2.out).1
  have e2 := (QW.out _ G2.out).2.1
  clear hb2 c1 e1
  go_wp2_with fail
  refine (impl_sameRq a a' b b' c c' d d' l l' v v' _ (K3.out _ P2.out).1 (K3.out _ P2.out).2.1 (K3.out _ P2.out).2.2.1 (K3.out _ P2.out).2.2.2 HX.out HY.out h1 h2).mono ?_
  rintro e w3 ⟨⟨bd, rfl, hbd⟩, hb3⟩
  have HBD : Hid (Bl (l = l' ∧ v = v') bd) := hbd
  have P3 : Hid (Below w.heap.size w w3) := P2.out.trans (hb3.mono P2.out.size)
  clear hb3 c2 e2 hbd
  go_wp2_with fail
  go_ret
  refine ⟨⟨bd, rfl, ?_⟩, P3.out⟩
  rcases HBD.out with ⟨h3, h4⟩ | ⟨h3, h4⟩
  · exact .inl ⟨h3, h1, h2, h4.1, h4.2⟩
  · exact .inr ⟨h3, fun h => h4 ⟨h.2.2.1, h.2.2.2⟩⟩
end Go.Proofs.Ytiehcmdhfeeomaa
