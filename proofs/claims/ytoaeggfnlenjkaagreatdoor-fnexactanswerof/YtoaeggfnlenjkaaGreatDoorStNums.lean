/- Rows of numbers; what all keys of a store tell now; rows of numbers held against each other. -/
import Derived.Test.YtoaeggfnlenjkaaGreatDoorDigitsD
import Derived.Laws.EntriesVeiled
import Derived.WalkSmall
namespace Go.Proofs.YtoaeggfnlenjkaaGreatDoor.G
open Go.ChangeShapes Go.WideShapes Go.ChangeAt Go.RowKit
set_option linter.unusedVariables false

structure Ve where
  ts : Int
  v : Int
abbrev Chs := List (List Ve)
def VeAt (rd : Nat → Option Value) (o : Nat) (x : Ve) : Prop := rd o = some (.int .i64 x.ts) ∧ rd (o + 1) = some (.int .i64 x.v)
abbrev VeRow (lo hi : Nat) (w : World) (a : Option Addr) (l : List Ve) : Prop := Row VeAt 2 lo hi w a l
theorem VeRow.keep {lo hi : Nat} {w w' : World} {a : Option Addr} {l : List Ve} (h : VeRow lo hi w a l) (hk : Agree lo hi w w') : VeRow lo hi w' a l := Row.of h hk fun _ _ _ hx => hx
theorem VeRow.wide {lo hi lo' hi' : Nat} {w : World} {a : Option Addr} {l : List Ve} (h : VeRow lo hi w a l) (e1 : lo' ≤ lo) (e2 : hi ≤ hi') : VeRow lo' hi' w a l := Row.out h e1 e2 fun _ _ _ hx => hx
theorem VeRow.up {w w' : World} {a : Option Addr} {l : List Ve} (h : VeRow 0 w.heap.size w a l) (hb : Below w.heap.size w w') : VeRow 0 w'.heap.size w' a l := VeRow.wide (VeRow.keep h (agree hb (Nat.le_refl _))) (Nat.le_refl _) hb.size
theorem VeRow.cells {lo hi : Nat} {w : World} {a : Option Addr} {l : List Ve} (h : VeRow lo hi w a l) (k : Nat) (hk : k < l.length) :
    ∃ b o, a = some ⟨b, o, none⟩ ∧ lo ≤ b ∧ b < hi ∧ w.cell? ⟨b, o + k * 2, none⟩ = some (.int .i64 l[k].ts) ∧ w.cell? ⟨b, o + k * 2 + 1, none⟩ = some (.int .i64 l[k].v) := by
  obtain ⟨b, o, e1, e2, e3, h0, h1⟩ := Row.at_ h k hk
  exact ⟨b, o, e1, e2, e3, h0, h1⟩
/-- A chain's cell: a slice over its versions. -/
def ChAt (lo hi : Nat) (w : World) (rd : Nat → Option Value) (o : Nat) (x : List Ve) : Prop := ∃ a c, rd o = some (.slice a x.length c) ∧ x.length ≤ c ∧ VeRow lo hi w a x
abbrev ChRow (lo hi : Nat) (w : World) (a : Option Addr) (l : Chs) : Prop := Row (ChAt lo hi w) 1 lo hi w a l
def ChsBd (m : Nat) (l : Chs) : Prop := l.length ≤ m ∧ ∀ x ∈ l, x.length ≤ m
theorem ChAt.keep {lo hi : Nat} {w w' : World} {rd : Nat → Option Value} {o : Nat} {x : List Ve} (hh : ChAt lo hi w rd o x) (hk : Agree lo hi w w') : ChAt lo hi w' rd o x := by
  obtain ⟨a, c, p, q, r⟩ := hh
  exact ⟨a, c, p, q, VeRow.keep r hk⟩
theorem ChAt.wide {lo hi lo' hi' : Nat} {w : World} {rd : Nat → Option Value} {o : Nat} {x : List Ve} (hh : ChAt lo hi w rd o x) (e1 : lo' ≤ lo) (e2 : hi ≤ hi') : ChAt lo' hi' w rd o x := by
  obtain ⟨a, c, p, q, r⟩ := hh
  exact ⟨a, c, p, q, VeRow.wide r e1 e2⟩
theorem ChRow.keep {lo hi : Nat} {w w' : World} {a : Option Addr} {l : Chs} (h : ChRow lo hi w a l) (hk : Agree lo hi w w') : ChRow lo hi w' a l := Row.of h hk fun _ _ _ hx => ChAt.keep hx hk
theorem ChRow.wide {lo hi lo' hi' : Nat} {w : World} {a : Option Addr} {l : Chs} (h : ChRow lo hi w a l) (e1 : lo' ≤ lo) (e2 : hi ≤ hi') : ChRow lo' hi' w a l := Row.out h e1 e2 fun _ _ _ hx => ChAt.wide hx e1 e2
theorem ChRow.up {w w' : World} {a : Option Addr} {l : Chs} (h : ChRow 0 w.heap.size w a l) (hb : Below w.heap.size w w') : ChRow 0 w'.heap.size w' a l := ChRow.wide (ChRow.keep h (agree hb (Nat.le_refl _))) (Nat.le_refl _) hb.size
theorem ChRow.cells {lo hi : Nat} {w : World} {a : Option Addr} {l : Chs} (h : ChRow lo hi w a l) (k : Nat) (hk : k < l.length) :
    ∃ b o a3 c3, a = some ⟨b, o, none⟩ ∧ lo ≤ b ∧ b < hi ∧ w.cell? ⟨b, o + k, none⟩ = some (.slice a3 l[k].length c3) ∧ l[k].length ≤ c3 ∧ VeRow lo hi w a3 l[k] := by
  obtain ⟨b, o, e1, e2, e3, a3, c3, h0, h1, h2⟩ := Row.at_ h k hk
  rw [Nat.mul_one] at h0
  exact ⟨b, o, a3, c3, e1, e2, e3, h0, h1, h2⟩
theorem listTwo {α : Type} {l : List α} (h : l.length = 2) : ∃ v0 v1, l = [v0, v1] := by
  match l, h with
  | [v0, v1], _ => exact ⟨v0, v1, rfl⟩
section
variable {H : Type} {enc : TypeId × Value → H} {W : World}
end
end Go.Proofs.YtoaeggfnlenjkaaGreatDoor.G
namespace Go.Proofs.YtoaeggfnlenjkaaGreatDoor.G
open Go.ChangeShapes Go.WideShapes Go.ChangeAt Go.RowKit
set_option linter.unusedVariables false

end Go.Proofs.YtoaeggfnlenjkaaGreatDoor.G
namespace Go.Proofs.YtoaeggfnlenjkaaGreatDoor.G
open Go.ChangeShapes Go.WideShapes Go.ChangeAt Go.RowKit
set_option linter.unusedVariables false

def VeCell (cs : Array Value) (o : Nat) (x : Ve) : Prop := cs[o]? = some (.int .i64 x.ts) ∧ cs[o + 1]? = some (.int .i64 x.v)
def bput (bs : Nat → Nat) (k g : Nat) : Nat → Nat := fun i => if i = k then g else bs i
theorem bput_at (bs : Nat → Nat) (k g : Nat) : bput bs k g k = g := by simp [bput]
theorem bput_ne (bs : Nat → Nat) (k g : Nat) {i : Nat} (h : i ≠ k) : bput bs k g i = bs i := by simp [bput, h]
theorem put_ve {cs : Array Value} {l : List Ve} {k : Nat} (hs : cs.size = l.length * 2) (hk : k < l.length) (h : ∀ i x, i < k → l[i]? = some x → VeCell cs (i * 2) x) :
    ∀ i x, i < k + 1 → l[i]? = some x → VeCell ((cs.setIfInBounds (k * 2) (.int .i64 l[k].ts)).setIfInBounds (k * 2 + 1) (.int .i64 l[k].v)) (i * 2) x := by
  intro i x hi hx
  by_cases hik : i = k
  · subst hik
    rw [List.getElem?_eq_getElem hk] at hx
    simp only [Option.some.injEq] at hx
    subst hx
    refine ⟨?_, ?_⟩ <;> simp [Array.getElem?_setIfInBounds] <;> omega
  · obtain ⟨c0, c1⟩ := h i x (by omega) hx
    refine ⟨?_, ?_⟩
    · rw [Array.getElem?_setIfInBounds_ne (by omega), Array.getElem?_setIfInBounds_ne (by omega)]; exact c0
    · rw [Array.getElem?_setIfInBounds_ne (by omega), Array.getElem?_setIfInBounds_ne (by omega)]; exact c1

end Go.Proofs.YtoaeggfnlenjkaaGreatDoor.G
namespace Go.Proofs.YtoaeggfnlenjkaaGreatDoor.G
open Go.ChangeShapes Go.WideShapes Go.ChangeAt Go.RowKit
set_option linter.unusedVariables false

end Go.Proofs.YtoaeggfnlenjkaaGreatDoor.G
namespace Go.Proofs.YtoaeggfnlenjkaaGreatDoor.G
set_option linter.unusedVariables false

def intB (v : Int) : Bool := decide (-2147483648 ≤ v ∧ v ≤ 2147483647)
def nodeB (v : Int) : Bool := decide (0 ≤ v ∧ v ≤ 8)
/-- A value of a key. -/
def valB (key v : Int) : Bool := if key % 2 = 1 then nodeB v else intB v
def keyS (key : Int) : Bool := decide (0 ≤ key ∧ key < 16)
def putB (key v : Int) : Bool := keyS key && valB key v
def tsAt (l : List Ve) (i : Nat) : Int := (l[i]?.map Ve.ts).getD 0
def vAt (l : List Ve) (i : Nat) : Int := (l[i]?.map Ve.v).getD 0
/-- The hour of the version ahead of one; 0 ahead of the first. -/
def prevTs (l : List Ve) : Nat → Int
  | 0 => 0
  | i + 1 => tsAt l i
def okB (key : Int) (now : Int) (l : List Ve) (i : Nat) : Bool := decide (prevTs l i < tsAt l i) && decide (tsAt l i ≤ now) && valB key (vAt l i)
def chainB (key : Int) (now : Int) (l : List Ve) : Bool := (List.range l.length).all (okB key now l)
def chAt (l : Chs) (i : Nat) : List Ve := l[i]?.getD []
def chainsB (l : Chs) (now : Int) : Bool := (List.range l.length).all (fun i => chainB i now (chAt l i))
def storeB (l : Chs) (now : Int) : Bool := decide (l.length = 16) && decide (0 ≤ now ∧ now ≤ 100000) && chainsB l now

theorem tsAt_eq {l : List Ve} {i : Nat} (h : i < l.length) : tsAt l i = l[i].ts := by simp [tsAt, h]
theorem vAt_eq {l : List Ve} {i : Nat} (h : i < l.length) : vAt l i = l[i].v := by simp [vAt, h]
theorem chAt_eq {l : Chs} {i : Nat} (h : i < l.length) : chAt l i = l[i] := by simp [chAt, h]
theorem chainB_true {key now : Int} {l : List Ve} (h : ∀ i, i < l.length → okB key now l i = true) : chainB key now l = true := by
  unfold chainB; rw [List.all_eq_true]; intro i hi; exact h i (List.mem_range.1 hi)
theorem chainB_false {key now : Int} {l : List Ve} {i : Nat} (hi : i < l.length) (h : okB key now l i = false) : chainB key now l = false := by
  unfold chainB; rw [List.all_eq_false]; exact ⟨i, List.mem_range.2 hi, by simp [h]⟩
theorem chainB_at {key now : Int} {l : List Ve} (h : chainB key now l = true) {i : Nat} (hi : i < l.length) : okB key now l i = true := by
  unfold chainB at h; rw [List.all_eq_true] at h; exact h i (List.mem_range.2 hi)
theorem chainsB_true {l : Chs} {now : Int} (h : ∀ i (hi : i < l.length), chainB i now l[i] = true) : chainsB l now = true := by
  unfold chainsB; rw [List.all_eq_true]; intro i hi; have hi := List.mem_range.1 hi; rw [chAt_eq hi]; exact h i hi
theorem chainsB_false {l : Chs} {now : Int} {i : Nat} (hi : i < l.length) (h : chainB i now l[i] = false) : chainsB l now = false := by
  unfold chainsB; rw [List.all_eq_false]; exact ⟨i, List.mem_range.2 hi, by simp [chAt_eq hi, h]⟩
theorem chainsB_at {l : Chs} {now : Int} (h : chainsB l now = true) {i : Nat} (hi : i < l.length) : chainB i now l[i] = true := by
  unfold chainsB at h; rw [List.all_eq_true] at h; have := h i (List.mem_range.2 hi); rwa [chAt_eq hi] at this
theorem storeB_len {l : Chs} {now : Int} (h : l.length ≠ 16) : storeB l now = false := by simp [storeB, h]
theorem storeB_now {l : Chs} {now : Int} (h : ¬ (0 ≤ now ∧ now ≤ 100000)) : storeB l now = false := by
  have : decide (0 ≤ now ∧ now ≤ 100000) = false := by simpa using h
  simp only [storeB, this]; simp
theorem storeB_chains {l : Chs} {now : Int} (h : l.length = 16) (h2 : 0 ≤ now ∧ now ≤ 100000) : storeB l now = chainsB l now := by simp [storeB, h, h2]
theorem storeB_all {l : Chs} {now : Int} (h : storeB l now = true) : l.length = 16 ∧ 0 ≤ now ∧ now ≤ 100000 ∧ chainsB l now = true := by
  simp only [storeB, Bool.and_eq_true, decide_eq_true_eq] at h
  exact ⟨h.1.1, h.1.2.1, h.1.2.2, h.2⟩
theorem okB_parts {key now : Int} {l : List Ve} {i : Nat} (h : okB key now l i = true) : prevTs l i < tsAt l i ∧ tsAt l i ≤ now ∧ valB key (vAt l i) = true := by
  simp only [okB, Bool.and_eq_true, decide_eq_true_eq] at h
  exact ⟨h.1.1, h.1.2, h.2⟩
theorem okB_mk {key now : Int} {l : List Ve} {i : Nat} (h1 : prevTs l i < tsAt l i) (h2 : tsAt l i ≤ now) (h3 : valB key (vAt l i) = true) : okB key now l i = true := by
  simp [okB, h1, h2, h3]
theorem okB_no1 {key now : Int} {l : List Ve} {i : Nat} (h1 : ¬ prevTs l i < tsAt l i) : okB key now l i = false := by simp [okB, h1]
theorem okB_no2 {key now : Int} {l : List Ve} {i : Nat} (h1 : ¬ tsAt l i ≤ now) : okB key now l i = false := by simp [okB, h1]
theorem okB_no3 {key now : Int} {l : List Ve} {i : Nat} (h1 : valB key (vAt l i) = false) : okB key now l i = false := by simp [okB, h1]
/-- The hours of a right chain rise. -/
theorem chain_rise {key now : Int} {l : List Ve} (h : chainB key now l = true) : ∀ i j, i < j → j < l.length → tsAt l i < tsAt l j := by
  intro i j hij hj
  induction j with
  | zero => omega
  | succ j ih =>
    have h1 := (okB_parts (chainB_at h hj)).1
    simp only [prevTs] at h1
    by_cases e : i = j
    · subst e; exact h1
    · have := ih (by omega) (by omega); omega
theorem chain_pos {key now : Int} {l : List Ve} (h : chainB key now l = true) : ∀ i, i < l.length → 1 ≤ tsAt l i ∧ tsAt l i ≤ now := by
  intro i hi
  have h0 := okB_parts (chainB_at h (show 0 < l.length by omega))
  simp only [prevTs] at h0
  have h1 := okB_parts (chainB_at h hi)
  by_cases e : i = 0
  · subst e; omega
  · have := chain_rise h 0 i (by omega) hi; omega
end Go.Proofs.YtoaeggfnlenjkaaGreatDoor.G
namespace Go.Proofs.YtoaeggfnlenjkaaGreatDoor.G
open Go.ChangeShapes Go.WideShapes Go.ChangeAt Go.RowKit
set_option linter.unusedVariables false

theorem ret_b {a b : Bool} (h : a = b) : Ending.returned (.bool a) = .returned (.bool b) := by rw [h]
set_option maxHeartbeats 400000 in
theorem impl_isKey (key : Int) (w : World) : Calls Tryz.prog 149 #[.int .i64 key] w fun e w' => e = .returned (.bool (keyS key)) ∧ w' = w := by
  go_enter Tryz.func149, Tryz.ntmps149
  go_wp2
  all_goals (go_ret; exact ⟨ret_b (by unfold keyS; rw [Bool.eq_iff_iff]; simp; try omega), rfl⟩)
set_option maxHeartbeats 400000 in
theorem impl_isInt (v : Int) (w : World) : Calls Tryz.prog 120 #[.int .i64 v] w fun e w' => e = .returned (.bool (intB v)) ∧ w' = w := by
  go_enter Tryz.func120, Tryz.ntmps120
  go_wp2
  all_goals (go_ret; exact ⟨ret_b (by unfold intB; rw [Bool.eq_iff_iff]; simp; try omega), rfl⟩)
theorem keyB_iff (key : Int) : keyS key = true ↔ 0 ≤ key ∧ key < 16 := by simp [keyS]
set_option maxHeartbeats 1000000 in
theorem impl_putOK (key v : Int) (w : World) : Calls Tryz.prog 129 #[.agg #[.int .i64 key, .int .i64 v]] w fun e w' => e = .returned (.bool (putB key v)) ∧ Below w.heap.size w w' := by
  have B0 : Hid (Below w.heap.size w (w.alloc (.cells #[.int .i64 key, .int .i64 v] 134))) := (Below.refl _ _).alloc (Nat.le_refl _) _
  cases hk : keyS key
  · have HN : Hid (false = putB key v) := by simp [Hid, putB, hk]
    go_enter Tryz.func129, Tryz.ntmps129
    go_wp2_with (first | (go_at_call 149; refine (impl_isKey _ _).mono ?_; rintro e w' ⟨rfl, rfl⟩; rw [hk]))
    go_ret
    exact ⟨ret_b HN.out, B0.out⟩
  · obtain ⟨g1, g2⟩ := (keyB_iff key).1 hk
    by_cases h2 : key % 2 = 0
    · have HN : Hid (intB v = putB key v) := by simp only [Hid, putB, hk, valB]; rw [if_neg (by omega)]; simp
      have h2' : (key % 2 == 0) = true := by simpa using h2
      go_enter Tryz.func129, Tryz.ntmps129
      go_wp2_with (first | (go_at_call 149; refine (impl_isKey _ _).mono ?_; rintro e w' ⟨rfl, rfl⟩; rw [hk]) | (go_at_call 120; refine (impl_isInt _ _).mono ?_; rintro e w' ⟨rfl, rfl⟩))
      go_ret
      exact ⟨ret_b HN.out, B0.out⟩
    · have HN : Hid (nodeB v = putB key v) := by simp only [Hid, putB, hk, valB]; rw [if_pos (by omega)]; simp
      have h2' : (key % 2 == 0) = false := by simpa using h2
      go_enter Tryz.func129, Tryz.ntmps129
      go_wp2_with (first | (go_at_call 149; refine (impl_isKey _ _).mono ?_; rintro e w' ⟨rfl, rfl⟩; rw [hk]) | (go_at_call 120; refine (impl_isInt _ _).mono ?_; rintro e w' ⟨rfl, rfl⟩))
      all_goals (go_ret; exact ⟨ret_b (by rw [← HN.out]; unfold nodeB; rw [Bool.eq_iff_iff]; simp; try omega), B0.out⟩)
end Go.Proofs.YtoaeggfnlenjkaaGreatDoor.G
namespace Go.Proofs.YtoaeggfnlenjkaaGreatDoor.G
open Go.ChangeShapes Go.WideShapes Go.ChangeAt Go.RowKit
set_option linter.unusedVariables false

def inS (v lo hi : Int) : Bool := decide (lo ≤ v ∧ v ≤ hi)
theorem inS_iff (v lo hi : Int) : inS v lo hi = true ↔ lo ≤ v ∧ v ≤ hi := by simp [inS]
theorem inB_not {v lo hi : Int} : inS v lo hi = false ↔ ¬ (lo ≤ v ∧ v ≤ hi) := by rw [← Bool.not_eq_true, inS_iff]
set_option maxHeartbeats 400000 in
theorem spec_inS (v lo hi : Int) (w : World) {b : Bool} (h : inS v lo hi = b) : Calls Tryz.prog 48 #[.int .i64 v, .int .i64 lo, .int .i64 hi] w fun e w' => e = .returned (.bool b) ∧ w' = w := by
  have H : Hid (inS v lo hi = b) := h
  clear h
  go_enter Tryz.func48, Tryz.ntmps48
  go_wp2
  all_goals (go_ret; exact ⟨ret_b (by rw [← H.out]; unfold inS; rw [Bool.eq_iff_iff]; simp; try omega), rfl⟩)
set_option maxHeartbeats 400000 in
theorem spec_isInt (v : Int) (w : World) : Calls Tryz.prog 110 #[.int .i64 v] w fun e w' => e = .returned (.bool (intB v)) ∧ w' = w := by
  go_enter Tryz.func110, Tryz.ntmps110
  go_wp2_with (first | (go_at_call 48; refine (spec_inS _ _ _ _ rfl).mono ?_; rintro e w' ⟨rfl, rfl⟩))
  all_goals (go_ret; exact ⟨ret_b (by unfold intB; first | rfl | (rw [Bool.eq_iff_iff]; simp; try omega)), rfl⟩)
set_option maxHeartbeats 400000 in
theorem spec_value (key v : Int) (w : World) (h0 : 0 ≤ key) {b : Bool} (h : valB key v = b) : Calls Tryz.prog 125 #[.int .i64 key, .int .i64 v] w fun e w' => e = .returned (.bool b) ∧ w' = w := by
  have H : Hid (valB key v = b) := h
  clear h
  by_cases h2 : key % 2 = 1
  · have h2' : (key % 2 == 1) = true := by simpa using h2
    have HV : Hid (inS v 0 8 = b) := by rw [Hid, ← H.out, valB, if_pos h2]; rfl
    go_enter Tryz.func125, Tryz.ntmps125
    go_wp2_with (first | (go_at_call 48; refine (spec_inS _ _ _ _ HV.out).mono ?_; rintro e w' ⟨rfl, rfl⟩) | (go_at_call 110; refine (spec_isInt _ _).mono ?_; rintro e w' ⟨rfl, rfl⟩))
    go_ret
    exact ⟨rfl, rfl⟩
  · have h2' : (key % 2 == 1) = false := by simpa using h2
    have HV : Hid (intB v = b) := by rw [Hid, ← H.out, valB, if_neg h2]
    go_enter Tryz.func125, Tryz.ntmps125
    go_wp2_with (first | (go_at_call 48; refine (spec_inS _ _ _ _ HV.out).mono ?_; rintro e w' ⟨rfl, rfl⟩) | (go_at_call 110; refine (spec_isInt _ _).mono ?_; rintro e w' ⟨rfl, rfl⟩))
    go_ret
    exact ⟨ret_b HV.out, rfl⟩
/-- One version as the specification looks at it. -/
theorem okB_spec {key now : Int} {l : List Ve} {k : Nat} (hlt : k < l.length) (hp : ∀ i, i < k → okB key now l i = true) (h1 : 1 ≤ l[k].ts) (h2 : l[k].ts ≤ now) (h3 : valB key l[k].v = true) (h4 : ∀ (h : 0 < k), (l[k - 1]'(by omega)).ts < l[k].ts) : okB key now l k = true := by
  refine okB_mk ?_ (by rw [tsAt_eq hlt]; exact h2) (by rw [vAt_eq hlt]; exact h3)
  rw [tsAt_eq hlt]
  cases k with
  | zero => simp only [prevTs]; omega
  | succ k => simp only [prevTs]; rw [tsAt_eq (by omega)]; exact h4 (by omega)
theorem okB_spec1 {key now : Int} {l : List Ve} {k : Nat} (hlt : k < l.length) (hp : ∀ i, i < k → okB key now l i = true) (h1 : ¬ (1 ≤ l[k].ts ∧ l[k].ts ≤ now)) : okB key now l k = false := by
  by_cases h2 : l[k].ts ≤ now
  · refine okB_no1 ?_
    rw [tsAt_eq hlt]
    cases k with
    | zero => simp only [prevTs]; omega
    | succ k =>
      simp only [prevTs]
      have hc : chainB key now (l.take (k + 1)) = true := chainB_true (fun i hi => by
        have hi' : i < k + 1 := by simp at hi; omega
        have := hp i hi'
        unfold okB at this ⊢
        rw [show tsAt (l.take (k + 1)) i = tsAt l i by simp [tsAt, hi'], show vAt (l.take (k + 1)) i = vAt l i by simp [vAt, hi'], show prevTs (l.take (k + 1)) i = prevTs l i by
          cases i with
          | zero => rfl
          | succ i => simp only [prevTs]; simp [tsAt, show i < k + 1 by omega]]
        exact this)
      have := (chain_pos hc k (by simp; omega)).1
      rw [show tsAt (l.take (k + 1)) k = tsAt l k by simp [tsAt]] at this
      omega
  · exact okB_no2 (by rw [tsAt_eq hlt]; exact h2)
theorem okB_spec4 {key now : Int} {l : List Ve} {k : Nat} (hlt : k < l.length) (h0 : 0 < k) (h1 : (l[k - 1]'(by omega)).ts ≥ l[k].ts) : okB key now l k = false := by
  refine okB_no1 ?_
  rw [tsAt_eq hlt]
  obtain ⟨j, rfl⟩ : ∃ j, k = j + 1 := ⟨k - 1, by omega⟩
  simp only [prevTs]
  rw [tsAt_eq (by omega)]
  simp only [Nat.add_sub_cancel] at h1
  omega
end Go.Proofs.YtoaeggfnlenjkaaGreatDoor.G
namespace Go.Proofs.YtoaeggfnlenjkaaGreatDoor.G
set_option linter.unusedVariables false

/-- How many versions are not behind an hour. -/
def UpTo (l : List Ve) (ts : Int) (n : Nat) : Prop := n ≤ l.length ∧ (∀ i, i < n → tsAt l i ≤ ts) ∧ (∀ i, n ≤ i → i < l.length → ts < tsAt l i)
def Rise (l : List Ve) : Prop := ∀ i j, i < j → j < l.length → tsAt l i < tsAt l j
def readV (l : List Ve) (ts : Int) : Int := l.foldl (fun v x => if x.ts ≤ ts then x.v else v) 0
def chgB (l : List Ve) (ts : Int) : Bool := decide (0 < l.length) && decide (ts < tsAt l (l.length - 1))
def hourN (l : Chs) (now ts : Int) : Int := if storeB l now = true then (if inS ts 0 now = true then 0 else 4) else 1
def askN (l : Chs) (now key ts : Int) : Int := if hourN l now ts = 0 then (if keyS key = true then 0 else 4) else hourN l now ts
theorem UpTo.one {l : List Ve} {ts : Int} {n m : Nat} (h : UpTo l ts n) (k : UpTo l ts m) : n = m := by
  by_cases h1 : n < m
  · have a := k.2.1 n h1; have b := h.2.2 n (Nat.le_refl _) (by have := k.1; omega); omega
  · by_cases h2 : m < n
    · have a := h.2.1 m h2; have b := k.2.2 m (Nat.le_refl _) (by have := h.1; omega); omega
    · omega
theorem readV_take {l : List Ve} {ts : Int} {k : Nat} (hk : k < l.length) : readV (l.take (k + 1)) ts = if l[k].ts ≤ ts then l[k].v else readV (l.take k) ts := by
  unfold readV; rw [List.take_succ_eq_append_getElem hk, List.foldl_append]; rfl
theorem readV_upto {l : List Ve} {ts : Int} {n : Nat} (h : UpTo l ts n) : readV l ts = if n = 0 then 0 else vAt l (n - 1) := by
  have key : ∀ k, n ≤ k → k ≤ l.length → readV (l.take k) ts = readV (l.take n) ts := by
    intro k hk hkl
    induction k with
    | zero => rw [show n = 0 by omega]
    | succ k ih =>
      by_cases e : n = k + 1
      · rw [e]
      · rw [readV_take (by omega), if_neg, ih (by omega) (by omega)]
        have := h.2.2 k (by omega) (by omega)
        rw [tsAt_eq (by omega)] at this
        omega
  have hl := key l.length h.1 (Nat.le_refl _)
  rw [List.take_length] at hl
  rw [hl]
  by_cases e : n = 0
  · subst e; rw [if_pos rfl]; rfl
  · obtain ⟨m, rfl⟩ : ∃ m, n = m + 1 := ⟨n - 1, by omega⟩
    have h1 := h.1
    rw [if_neg (by omega), readV_take (by omega), if_pos, Nat.add_sub_cancel, vAt_eq (by omega)]
    have := h.2.1 m (by omega)
    rw [tsAt_eq (by omega)] at this
    exact this
theorem chgB_upto {l : List Ve} {ts : Int} {n : Nat} (h : UpTo l ts n) : chgB l ts = decide ((n : Int) < l.length) := by
  obtain ⟨h1, h2, h3⟩ := h
  unfold chgB
  rw [Bool.eq_iff_iff]
  simp only [Bool.and_eq_true, decide_eq_true_eq]
  constructor
  · rintro ⟨a, b⟩
    by_cases e : n < l.length
    · omega
    · have := h2 (l.length - 1) (by omega); omega
  · intro a
    exact ⟨by omega, h3 (l.length - 1) (by omega) (by omega)⟩
theorem hourN_zero {l : Chs} {now ts : Int} (h : hourN l now ts = 0) : storeB l now = true ∧ 0 ≤ ts ∧ ts ≤ now := by
  unfold hourN at h
  by_cases h1 : storeB l now = true
  · rw [if_pos h1] at h
    by_cases h2 : inS ts 0 now = true
    · exact ⟨h1, (inS_iff _ _ _).1 h2⟩
    · rw [if_neg h2] at h; omega
  · rw [if_neg h1] at h; omega
theorem askN_zero {l : Chs} {now key ts : Int} (h : askN l now key ts = 0) : storeB l now = true ∧ 0 ≤ ts ∧ ts ≤ now ∧ 0 ≤ key ∧ key < 16 := by
  unfold askN at h
  by_cases h1 : hourN l now ts = 0
  · rw [if_pos h1] at h
    by_cases h2 : keyS key = true
    · have := (keyB_iff key).1 h2
      have h3 := hourN_zero h1
      exact ⟨h3.1, h3.2.1, h3.2.2, this.1, this.2⟩
    · rw [if_neg h2] at h; omega
  · rw [if_neg h1] at h; omega
theorem store_rise {l : Chs} {now : Int} (h : storeB l now = true) {k : Nat} (hk : k < l.length) : Rise l[k] := chain_rise (chainsB_at (storeB_all h).2.2.2 hk)
end Go.Proofs.YtoaeggfnlenjkaaGreatDoor.G
namespace Go.Proofs.YtoaeggfnlenjkaaGreatDoor.G
open Go.ChangeShapes Go.WideShapes Go.ChangeAt Go.RowKit
set_option linter.unusedVariables false

theorem ret_i {a b : Int} (h : a = b) : Ending.returned (.int .i64 a) = .returned (.int .i64 b) := by rw [h]
/-- A chain and an hour that lie boxed. -/
def UpAt (w : World) (B : Nat) (a : Option Addr) (len c : Nat) (ts : Int) : Prop := w.cell? ⟨B, 0, none⟩ = some (.slice a len c) ∧ w.cell? ⟨B + 1, 0, none⟩ = some (.int .i64 ts)
theorem UpAt.drewN {w : World} {B : Nat} {a : Option Addr} {len c : Nat} {ts : Int} (h : UpAt w B a len c ts) (q : Nat) : UpAt (w.drewN q) B a len c ts := h
theorem VeRow.drewN {w : World} {a : Option Addr} {l : List Ve} (h : VeRow 0 w.heap.size w a l) (q : Nat) : VeRow 0 (w.drewN q).heap.size (w.drewN q) a l := h
end Go.Proofs.YtoaeggfnlenjkaaGreatDoor.G
namespace Go.Proofs.YtoaeggfnlenjkaaGreatDoor.G
open Go.ChangeShapes Go.WideShapes Go.ChangeAt Go.RowKit
set_option linter.unusedVariables false

end Go.Proofs.YtoaeggfnlenjkaaGreatDoor.G
namespace Go.Proofs.YtoaeggfnlenjkaaGreatDoor.G
open Go.ChangeShapes Go.WideShapes Go.ChangeAt Go.RowKit
set_option linter.unusedVariables false

end Go.Proofs.YtoaeggfnlenjkaaGreatDoor.G
namespace Go.Proofs.YtoaeggfnlenjkaaGreatDoor.G
open Go.ChangeShapes Go.WideShapes Go.ChangeAt Go.RowKit
set_option linter.unusedVariables false

def readR (l : Chs) (now key ts : Int) : Int := if askN l now key ts = 0 then readV (chAt l key.toNat) ts else 0
def chgR (l : Chs) (now key ts : Int) : Bool := if askN l now key ts = 0 then chgB (chAt l key.toNat) ts else false
def sizeN (l : Chs) : Nat := (l.map List.length).sum
def sizeR (l : Chs) (now : Int) : Int := if storeB l now = true then sizeN l else 0
def badN (l : Chs) (now : Int) : Int := if storeB l now = true then 0 else 1
theorem sizeN_take {l : Chs} {k : Nat} (hk : k < l.length) : sizeN (l.take (k + 1)) = sizeN (l.take k) + l[k].length := by
  unfold sizeN; rw [List.take_succ_eq_append_getElem hk, List.map_append, List.sum_append]; simp only [List.map_cons, List.map_nil, List.sum_cons, List.sum_nil]; omega
theorem sizeN_le {l : Chs} (h : ∀ x ∈ l, x.length ≤ 1048576) : sizeN l ≤ l.length * 1048576 := by
  induction l with
  | nil => simp [sizeN]
  | cons x l ih =>
    have h1 := h x (by simp)
    have h2 := ih (fun y hy => h y (by simp [hy]))
    unfold sizeN at h2 ⊢
    simp only [List.map_cons, List.sum_cons, List.length_cons]
    omega
theorem ret_2 {a b c d : Int} (h1 : a = b) (h2 : c = d) : Ending.returned (.tuple #[.int .i64 a, .int .i64 c]) = .returned (.tuple #[.int .i64 b, .int .i64 d]) := by rw [h1, h2]
theorem ret_b2 {a b : Bool} {c d : Int} (h1 : a = b) (h2 : c = d) : Ending.returned (.tuple #[.bool a, .int .i64 c]) = .returned (.tuple #[.bool b, .int .i64 d]) := by rw [h1, h2]
end Go.Proofs.YtoaeggfnlenjkaaGreatDoor.G
namespace Go.Proofs.YtoaeggfnlenjkaaGreatDoor.G
open Go.ChangeShapes Go.WideShapes Go.ChangeAt Go.RowKit
set_option linter.unusedVariables false

/-- Nothing has turned but blocks from lo up and below hi, and new ones were made. -/
structure KeptS (lo hi : Nat) (w w' : World) : Prop where
  os : w'.os = w.os
  tape : w'.tape = w.tape
  output : w'.output = w.output
  size : w.heap.size ≤ w'.heap.size
  block : ∀ k, k < w.heap.size → ¬ (lo ≤ k ∧ k < hi) → w'.heap[k]? = w.heap[k]?
theorem KeptS.refl (lo hi : Nat) (w : World) : KeptS lo hi w w := ⟨rfl, rfl, rfl, Nat.le_refl _, fun _ _ _ => rfl⟩
theorem KeptS.trans {lo hi : Nat} {a b c : World} (h : KeptS lo hi a b) (k : KeptS lo hi b c) : KeptS lo hi a c :=
  ⟨k.os.trans h.os, k.tape.trans h.tape, k.output.trans h.output, Nat.le_trans h.size k.size, fun g hg hn => (k.block g (Nat.lt_of_lt_of_le hg h.size) hn).trans (h.block g hg hn)⟩
theorem KeptS.mono {lo hi lo' hi' : Nat} {a b : World} (h : KeptS lo hi a b) (e1 : lo' ≤ lo) (e2 : hi ≤ hi') : KeptS lo' hi' a b := ⟨h.os, h.tape, h.output, h.size, fun g hg hn => h.block g hg (fun hx => hn ⟨by omega, by omega⟩)⟩
theorem KeptS.of {lo hi : Nat} {a b : World} (h : Below a.heap.size a b) : KeptS lo hi a b := ⟨h.os, h.tape, h.output, h.size, fun g hg _ => h.block g hg⟩
theorem KeptS.set {lo hi : Nat} {a b : World} (h : KeptS lo hi a b) {p : Addr} (h1 : lo ≤ p.block) (h2 : p.block < hi) (v : Value) : KeptS lo hi a (b.setCell p v) := by
  have hb : Below (p.block) b (b.setCell p v) := (Below.refl _ _).setCell (Nat.le_refl _) v
  exact h.trans ⟨hb.os, hb.tape, hb.output, hb.size, fun g _ hn => Below.heap_setCell _ _ _ _ (fun e => hn (e ▸ ⟨h1, h2⟩))⟩
theorem KeptS.below {lo hi : Nat} {a b : World} (h : KeptS lo hi a b) {B : Nat} (hB : B ≤ a.heap.size) (hs : B ≤ lo) : Below B a b :=
  ⟨h.os, h.tape, h.output, h.size, fun g hg => h.block g (by omega) (fun hx => by omega)⟩
theorem KeptS.agree {lo hi lo' hi' : Nat} {a b : World} (h : KeptS lo hi a b) (hB : hi' ≤ a.heap.size) (hs : hi' ≤ lo ∨ hi ≤ lo') : Agree lo' hi' a b :=
  fun g h1 h2 => h.block g (by omega) (fun hx => by omega)
theorem mk_put {cs : Array Value} {K : Int} {k n : Nat} (hs : n * 2 ≤ cs.size) (hk : k < n) (h : ∀ i : Nat, i < k → cs[i * 2]? = some (.int .i64 (K + 2 * i)) ∧ cs[i * 2 + 1]? = some (.int .i64 (K + 2 * i + 1))) {v0 v1 : Int} (e0 : v0 = K + 2 * k) (e1 : v1 = K + 2 * k + 1) :
    ∀ i : Nat, i < k + 1 → ((cs.setIfInBounds (k * 2) (.int .i64 v0)).setIfInBounds (k * 2 + 1) (.int .i64 v1))[i * 2]? = some (.int .i64 (K + 2 * i)) ∧ ((cs.setIfInBounds (k * 2) (.int .i64 v0)).setIfInBounds (k * 2 + 1) (.int .i64 v1))[i * 2 + 1]? = some (.int .i64 (K + 2 * i + 1)) := by
  subst e0 e1
  intro i hi
  by_cases hik : i = k
  · subst hik
    refine ⟨?_, ?_⟩ <;> simp [Array.getElem?_setIfInBounds] <;> omega
  · obtain ⟨c0, c1⟩ := h i (by omega)
    refine ⟨?_, ?_⟩
    · rw [Array.getElem?_setIfInBounds_ne (by omega), Array.getElem?_setIfInBounds_ne (by omega)]; exact c0
    · rw [Array.getElem?_setIfInBounds_ne (by omega), Array.getElem?_setIfInBounds_ne (by omega)]; exact c1
theorem sizeN_take_le (l : Chs) (k : Nat) : sizeN (l.take k) ≤ sizeN l := by
  have : sizeN l = sizeN (l.take k) + sizeN (l.drop k) := by
    unfold sizeN; rw [← List.sum_append, ← List.map_append, List.take_append_drop]
  omega
end Go.Proofs.YtoaeggfnlenjkaaGreatDoor.G
namespace Go.Proofs.YtoaeggfnlenjkaaGreatDoor.G
open Go.ChangeShapes Go.WideShapes Go.ChangeAt Go.RowKit
set_option linter.unusedVariables false

section
variable {H : Type} {enc : TypeId × Value → H} {W : World}
theorem Pus_open {fuel : Nat} {cs : List Value} {x : DataW H × List MemPlace} (h : DataW.trod enc Tryz.prog W 0 (fun _ => true) true fuel 52 cs = some x) :
    ∃ a c, ∃ l : List Ve, cs = [.slice a l.length c] ∧ l.length ≤ c ∧ l.length ≤ maxLen ∧ VeRow 0 W.heap.size W a l := by
  have ci : Tryz.prog.cellsOf 3 = 1 := by kernel_rfl
  have hcap : ∃ a len cap, cs = [.slice a len cap] ∧ len ≤ cap := by
    rcases DataW.trod_slice Tryz.underlying52 h with ⟨rfl, _⟩ | ⟨a, len, cap, elems, rest, n, rfl, rfl, _, hb, hl, hm, hlen, hel, _, _⟩
    · exact ⟨_, _, _, rfl, Nat.le_refl _⟩
    · exact ⟨_, _, _, rfl, hl⟩
  obtain ⟨a, len, cap, rfl, hm, hr⟩ := sl_open Tryz.underlying52 (z := 2) (by kernel_rfl) (by omega) h
  obtain ⟨a9, len9, cap9, e9, hcp⟩ := hcap
  simp only [List.cons.injEq, Value.slice.injEq, and_true] at e9
  obtain ⟨rfl, rfl, rfl⟩ := e9
  rcases hr with rfl | ⟨n, b, o, rfl, rfl, hb, hx⟩
  · exact ⟨a, cap, [], rfl, Nat.zero_le _, Nat.zero_le _, .inl rfl⟩
  · obtain ⟨l, hl, hp⟩ := list_of (p := fun i x => VeAt (rdOf W b) (o + i * 2) x) (fun i hi => by
      obtain ⟨cs', y, hcl, hc, hd⟩ := hx i hi
      obtain ⟨xs, n', rfl, rfl, _, hxl, hf⟩ := DataW.trod_struct Tryz.underlying136 hd
      obtain ⟨v0, v1, rfl⟩ := listTwo hcl
      obtain ⟨y0, y1, rfl⟩ := listTwo hxl
      obtain ⟨g0, e0, _, _⟩ := DataW.trod_int Tryz.underlying3 (hf 0 _ rfl)
      obtain ⟨g1, e1, _, _⟩ := DataW.trod_int Tryz.underlying3 (hf 1 _ rfl)
      simp [ci] at e0 e1
      subst e0 e1
      exact ⟨⟨g0, g1⟩, hc 0 (by omega), hc 1 (by omega)⟩)
    subst hl
    exact ⟨_, cap, l, rfl, hcp, hm, .inr ⟨b, o, rfl, Nat.zero_le _, hb, fun i x hx => hp i x hx⟩⟩
end
set_option maxHeartbeats 1000000 in
theorem sz_Pus (a : Option Addr) (c len : Nat) (n : Int) (w : World) (hl : len ≤ maxLen) (h0 : 0 ≤ n) (h1 : n ≤ 1048576) :
    Calls Tryz.prog 58 #[.slice a len c, .int .i64 n] w fun e w' => ∃ m, e = .returned (.int .i64 m) ∧ Sz n m (len ≤ 1048576) ∧ w' = w := by
  unfold maxLen at hl
  by_cases hz : n - len < 0
  · go_enter Tryz.func58, Tryz.ntmps58
    go_wp2_with fail
    go_ret
    exact ⟨-1, rfl, Sz.neg h0, rfl⟩
  · go_enter Tryz.func58, Tryz.ntmps58
    go_wp2_with fail
    go_ret
    exact ⟨_, rfl, ⟨by omega, by omega, fun _ => by omega⟩, rfl⟩
/-- A block that holds a chain's versions, from its start. -/
def PuBlk (w : World) (b : Nat) (l : List Ve) : Prop := ∃ cs, w.heap[b]? = some (.cells cs 134 (0, 0)) ∧ l.length * 2 ≤ cs.size ∧ ∀ i x, l[i]? = some x → VeCell cs (i * 2) x
theorem PuBlk.move {w w' : World} {b : Nat} {l : List Ve} (h : PuBlk w b l) (e : w'.heap[b]? = w.heap[b]?) : PuBlk w' b l := by
  obtain ⟨cs, h1, h2, h3⟩ := h
  exact ⟨cs, e.trans h1, h2, h3⟩
theorem PuBlk.row {w : World} {b : Nat} {l : List Ve} {lo hi : Nat} (h : PuBlk w b l) (h1 : lo ≤ b) (h2 : b < hi) : VeRow lo hi w (some ⟨b, 0, none⟩) l := by
  obtain ⟨cs, g1, g2, g3⟩ := h
  refine .inr ⟨b, 0, rfl, h1, h2, fun i x hx => ?_⟩
  rw [row_rd g1, Nat.zero_add]
  exact g3 i x hx
theorem PuBlk.lt {w : World} {b : Nat} {l : List Ve} (h : PuBlk w b l) : b < w.heap.size := by
  obtain ⟨cs, g1, _⟩ := h
  exact (Array.getElem?_eq_some_iff.1 g1).1
set_option maxRecDepth 100000 in
theorem info_PuX : ∃ i, Tryz.prog.info? 134 = some i ∧ i.zero = some (.agg #[.int .i64 0, .int .i64 0]) ∧ i.size = 2 ∧ i.bytes = 16 := by
  refine ⟨_, rfl, ?_, ?_, ?_⟩ <;> kernel_rfl
set_option maxHeartbeats 1000000 in
theorem to_Pu (x : Ve) (w : World) :
    Calls Tryz.prog 101 #[.agg #[.int .i64 x.ts, .int .i64 x.v]] w fun e w' => e = .returned (.agg #[.int .i64 x.ts, .int .i64 x.v]) ∧ Below w.heap.size w w' := by
  go_enter Tryz.func101, Tryz.ntmps101
  go_wp2
  refine bodyPost_ret (v := .agg #[.int .i64 x.ts, .int .i64 x.v]) (by simp [results, Tryz.results101, go_sem]) rfl ⟨rfl, ?_⟩
  repeat (first | exact Below.refl _ _ | refine Below.setCell ?_ (by first | omega | (simp <;> omega)) _ | refine Below.alloc ?_ (by first | omega | (simp <;> omega)) _)
set_option maxHeartbeats 2000000 in
theorem to_Pus (a : Option Addr) (c : Nat) (l : List Ve) (w : World) (hr : VeRow 0 w.heap.size w a l) (hl : l.length ≤ 1048576) :
    Calls Tryz.prog 63 #[.slice a l.length c] w fun e w' => e = .returned (.slice (some ⟨w.heap.size, 0, none⟩) l.length l.length) ∧ PuBlk w' w.heap.size l ∧ Below w.heap.size w w' := by
  have HR : Hid (VeRow 0 w.heap.size w a l) := hr
  clear hr
  obtain ⟨i27, hi, hz, hsz, hby⟩ := info_PuX
  have hmk := run_make (P := Tryz.prog) w 62 134 i27 _ Tryz.underlying62 hi hz .i64 .i64 (l.length : Int) (l.length : Int) (by omega) (by omega) (by rw [hby]; omega) (by omega)
  rw [hsz, Int.toNat_natCast] at hmk
  clear hi hz hsz hby
  have hs0 := size_madeCells (Value.agg #[.int .i64 0, .int .i64 0]).cells (l.length * 2)
  generalize madeCells (Value.agg #[.int .i64 0, .int .i64 0]).cells (l.length * 2) = cs0 at *
  go_enter Tryz.func63, Tryz.ntmps63
  go_wp2_with fail
  go_loopw [4] (fun i w' => ∃ (k : Nat) (cs : Array Value), k ≤ l.length ∧ i = .int .i64 k ∧ Below w.heap.size w w' ∧ Hid (w'.heap[w.heap.size]? = some (.cells cs 134 (0, 0))) ∧ cs.size = l.length * 2 ∧ Hid (∀ i x, i < k → l[i]? = some x → VeCell cs (i * 2) x)) (fun i _ => l.length - (intOf i).toNat)
  case atStart => exact ⟨0, cs0, by omega, rfl, (Below.refl _ _).alloc (Nat.le_refl _) _, heap_alloc_new _ _, hs0, fun i x h => by omega⟩
  case round =>
    rename_i wr
    obtain ⟨k, cs, hk, rfl, hb, HH, hcs, HL⟩ := hrel
    clear hmk hs0
    by_cases hlt : k < l.length
    · obtain ⟨b, o, ha, _, hbl, d0, d1⟩ := VeRow.cells (VeRow.keep HR.out (agree hb (Nat.le_refl _))) k hlt
      subst ha
      go_wp2_with fail
      refine (to_Pu l[k] _).mono ?_
      rintro e w1 ⟨rfl, hb1⟩
      have hN : w.heap.size < wr.heap.size := (Array.getElem?_eq_some_iff.1 HH.out).1
      have HH1 : Hid (w1.heap[w.heap.size]? = some (.cells cs 134 (0, 0))) := (hb1.block _ hN).trans HH.out
      obtain ⟨v0, hv0⟩ : ∃ v, w1.cell? ⟨w.heap.size, k * 2, none⟩ = some v := ⟨_, (row_cell HH1.out _).trans (Array.getElem?_eq_getElem (by omega))⟩
      obtain ⟨v1, hv1⟩ : ∃ v, w1.cell? ⟨w.heap.size, k * 2 + 1, none⟩ = some v := ⟨_, (row_cell HH1.out _).trans (Array.getElem?_eq_getElem (by omega))⟩
      have hf0 := row_frozen HH1.out (k * 2)
      have hf1 := row_frozen HH1.out (k * 2 + 1)
      have qb : Hid _ := hb.trans (hb1.mono hb.size)
      have hz1 := hb1.size
      clear d0 d1
      go_wp2_with fail
      exact ⟨⟨k + 1, _, by omega, by go_num, (qb.out.setCell (Nat.le_refl _) _).setCell (Nat.le_refl _) _, row_set (row_set HH1.out _ _) _ _, by simp [hcs], put_ve hcs hlt HL.out⟩, by simp [intOf]; omega⟩
    · go_wp2_with fail
      go_ret
      obtain rfl : k = l.length := by omega
      exact ⟨rfl, ⟨cs, HH.out, by omega, fun i x hx => HL.out i x (List.getElem?_eq_some_iff.1 hx).1 hx⟩, hb⟩
set_option maxHeartbeats 1000000 in
theorem eq_Pu (x : Ve) (w : World) :
    Calls Tryz.prog 107 #[.agg #[.int .i64 x.ts, .int .i64 x.v], .agg #[.int .i64 x.ts, .int .i64 x.v]] w fun e w' => e = .returned (.bool true) ∧ Below w.heap.size w w' := by
  go_enter Tryz.func107, Tryz.ntmps107
  go_wp2_with fail
  go_ret
  refine ⟨rfl, ?_⟩
  repeat (first | exact Below.refl _ _ | refine Below.alloc ?_ (by simp) _)
set_option maxHeartbeats 1000000 in
theorem eq_Pus (a a' : Option Addr) (c c' : Nat) (l : List Ve) (w : World) (hr : VeRow 0 w.heap.size w a l) (hr' : VeRow 0 w.heap.size w a' l) (hl : l.length ≤ 1048576) :
    Calls Tryz.prog 68 #[.slice a l.length c, .slice a' l.length c'] w fun e w' => e = .returned (.bool true) ∧ Below w.heap.size w w' := by
  have HR : Hid (VeRow 0 w.heap.size w a l) := hr
  have HR' : Hid (VeRow 0 w.heap.size w a' l) := hr'
  clear hr hr'
  go_enter Tryz.func68, Tryz.ntmps68
  go_wp2_with fail
  go_loopw [5] (fun i w' => ∃ (k : Nat), k ≤ l.length ∧ i = .int .i64 k ∧ Below w.heap.size w w') (fun i _ => l.length - (intOf i).toNat)
  case atStart => exact ⟨0, by omega, rfl, Below.refl _ _⟩
  case round =>
    rename_i wr
    obtain ⟨k, hk, rfl, hb⟩ := hrel
    by_cases hlt : k < l.length
    · obtain ⟨b, o, ha, _, hbl, d0, d1⟩ := VeRow.cells (VeRow.keep HR.out (agree hb (Nat.le_refl _))) k hlt
      obtain ⟨b', o', ha', _, hbl', f0, f1⟩ := VeRow.cells (VeRow.keep HR'.out (agree hb (Nat.le_refl _))) k hlt
      subst ha
      subst ha'
      have hlt' : (k : Int) < l.length := by omega
      go_wp2_with fail
      go_region_with (go_at_call 107; refine (eq_Pu l[k] _).mono ?_; rintro e w1 ⟨rfl, hb1⟩)
      all_goals
        go_wp2_with fail
        exact ⟨⟨k + 1, by omega, by go_num, hb.drew.trans (hb1.mono hb.size)⟩, by simp [intOf]; omega⟩
    · go_wp2_with fail
      go_ret
      exact ⟨rfl, hb⟩
/-- A block whose first n versions bear the marks from K on. -/
def PuMk (w : World) (b : Nat) (K : Int) (n : Nat) : Prop := ∃ cs, w.heap[b]? = some (.cells cs 134 (0, 0)) ∧ n * 2 ≤ cs.size ∧ ∀ i : Nat, i < n → cs[i * 2]? = some (.int .i64 (K + 2 * i)) ∧ cs[i * 2 + 1]? = some (.int .i64 (K + 2 * i + 1))
theorem PuMk.move {w w' : World} {b : Nat} {K : Int} {n : Nat} (h : PuMk w b K n) (e : w'.heap[b]? = w.heap[b]?) : PuMk w' b K n := by
  obtain ⟨cs, h1, h2⟩ := h
  exact ⟨cs, e.trans h1, h2⟩
end Go.Proofs.YtoaeggfnlenjkaaGreatDoor.G
namespace Go.Proofs.YtoaeggfnlenjkaaGreatDoor.G
open Go.ChangeShapes Go.WideShapes Go.ChangeAt Go.RowKit
set_option linter.unusedVariables false

theorem keyB_in (key : Int) : inS key 0 15 = keyS key := by unfold inS keyS; rw [Bool.eq_iff_iff]; simp; omega
end Go.Proofs.YtoaeggfnlenjkaaGreatDoor.G
namespace Go.Proofs.YtoaeggfnlenjkaaGreatDoor.G
open Go.ChangeShapes Go.WideShapes Go.ChangeAt Go.RowKit
set_option linter.unusedVariables false

def NuAt (rd : Nat → Option Value) (o : Nat) (x : Int) : Prop := rd o = some (.int .i64 x)
abbrev NuRow (lo hi : Nat) (w : World) (a : Option Addr) (l : List Int) : Prop := Row NuAt 1 lo hi w a l
theorem NuRow.keep {lo hi : Nat} {w w' : World} {a : Option Addr} {l : List Int} (h : NuRow lo hi w a l) (hk : Agree lo hi w w') : NuRow lo hi w' a l := Row.of h hk fun _ _ _ hx => hx
theorem NuRow.wide {lo hi lo' hi' : Nat} {w : World} {a : Option Addr} {l : List Int} (h : NuRow lo hi w a l) (e1 : lo' ≤ lo) (e2 : hi ≤ hi') : NuRow lo' hi' w a l := Row.out h e1 e2 fun _ _ _ hx => hx
theorem NuRow.up {w w' : World} {a : Option Addr} {l : List Int} (h : NuRow 0 w.heap.size w a l) (hb : Below w.heap.size w w') : NuRow 0 w'.heap.size w' a l := NuRow.wide (NuRow.keep h (agree hb (Nat.le_refl _))) (Nat.le_refl _) hb.size
theorem NuRow.cells {lo hi : Nat} {w : World} {a : Option Addr} {l : List Int} (h : NuRow lo hi w a l) (k : Nat) (hk : k < l.length) :
    ∃ b o, a = some ⟨b, o, none⟩ ∧ lo ≤ b ∧ b < hi ∧ w.cell? ⟨b, o + k, none⟩ = some (.int .i64 l[k]) := by
  obtain ⟨b, o, e1, e2, e3, h0⟩ := Row.at_ h k hk
  rw [Nat.mul_one] at h0
  exact ⟨b, o, e1, e2, e3, h0⟩
theorem nu_of {w : World} {N lo hi : Nat} {cs : Array Value} {T : TypeId} {l : List Int} (h : w.heap[N]? = some (.cells cs T (0, 0))) (h1 : lo ≤ N) (h2 : N < hi) (hc : ∀ i (h : i < l.length), cs[i]? = some (.int .i64 l[i])) : NuRow lo hi w (some ⟨N, 0, none⟩) l := by
  refine .inr ⟨N, 0, rfl, h1, h2, fun i x hx => ?_⟩
  obtain ⟨hi, rfl⟩ := List.getElem?_eq_some_iff.1 hx
  rw [row_rd h]
  show cs[0 + i * 1]? = _
  rw [Nat.mul_one, Nat.zero_add]
  exact hc i hi
set_option maxRecDepth 100000 in
theorem info_int : ∃ i, Tryz.prog.info? 3 = some i ∧ i.zero = some (.int .i64 0) ∧ i.size = 1 ∧ i.bytes = 8 := by
  refine ⟨_, rfl, ?_, ?_, ?_⟩ <;> kernel_rfl
/-- What all keys tell at an hour. -/
def vals (l : Chs) (ts : Int) : List Int := l.map fun x => readV x ts
theorem vals_len (l : Chs) (ts : Int) : (vals l ts).length = l.length := by simp [vals]
theorem vals_at {l : Chs} {ts : Int} {i : Nat} (h : i < (vals l ts).length) : (vals l ts)[i] = readV (l[i]'(by rw [vals_len] at h; exact h)) ts := by simp [vals]
end Go.Proofs.YtoaeggfnlenjkaaGreatDoor.G
