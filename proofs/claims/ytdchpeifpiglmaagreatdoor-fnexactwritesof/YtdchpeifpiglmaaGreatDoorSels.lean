/- Documents as data, and how they lie in memory. -/
import Derived.Test.YtdchpeifpiglmaaGreatDoorGMarks
import Derived.Test.YtdchpeifpiglmaaGreatDoorGNames
import Derived.Test.YtdchpeifpiglmaaGreatDoorNameOK
import Derived.Deep.RegionWith
import Derived.Lib.ItoaNum
import Derived.Lib.ItoaLen
import Derived.Deep.AppendLies
import Derived.Below
namespace Go.Proofs.YtdchpeifpiglmaaGreatDoor.G
set_option linter.unusedVariables false

def hasK (ns : List ByteArray) (s : ByteArray) : Bool := ns.any fun t => t.toList == s.toList
def keyB (keys : List ByteArray) (i : Nat) : Bool := match keys[i]? with | some s => nameB s && !hasK (keys.take i) s | none => false
def keysB (keys : List ByteArray) : Bool := (List.range keys.length).all (keyB keys)
def intO (v : Int) : Bool := decide (-2147483648 ≤ v ∧ v ≤ 2147483647)
def plainB (h : Oh) (sub : Ous) : Bool := decide (h.keys.length = 0) && decide (sub.len = 0)
def noT (h : Oh) : Bool := h.t.toList.isEmpty
/-- One value but for its items. -/
def headB (h : Oh) (sub : Ous) : Bool :=
  if h.k = 0 then plainB h sub && (h.n == 0) && noT h
  else if h.k = 1 then plainB h sub && intO h.n && noT h
  else if h.k = 2 then plainB h sub && (h.n == 0) && nameB h.t
  else if h.k = 3 then (h.n == 0) && noT h && decide (h.keys.length = 0)
  else if h.k = 4 then (h.n == 0) && noT h && decide (h.keys.length = sub.len) && keysB h.keys
  else false
/-- All values of a list, each in fewer than d others. -/
def okO : Nat → Ous → Bool
  | _, .nil => true
  | d, .cons h sub rest => decide (0 < d) && headB h sub && okO (d - 1) sub && okO d rest
def oneO (d : Nat) (h : Oh) (sub : Ous) : Bool := decide (0 < d) && headB h sub && okO (d - 1) sub
def outB (d : Nat) (h : Oh) (sub : Ous) : Bool := oneO d h sub && decide (1 + sub.size ≤ 4000)
theorem okO_cons (d : Nat) (h : Oh) (sub rest : Ous) : okO d (.cons h sub rest) = (oneO d h sub && okO d rest) := rfl
theorem keyB_eq {keys : List ByteArray} {i : Nat} (h : i < keys.length) : keyB keys i = (nameB keys[i] && !hasK (keys.take i) keys[i]) := by simp [keyB, h]
theorem keysB_true {keys : List ByteArray} (h : ∀ i, i < keys.length → keyB keys i = true) : keysB keys = true := by
  unfold keysB; rw [List.all_eq_true]; intro i hi; exact h i (List.mem_range.1 hi)
theorem keysB_false {keys : List ByteArray} {i : Nat} (hi : i < keys.length) (h : keyB keys i = false) : keysB keys = false := by
  unfold keysB; rw [List.all_eq_false]; exact ⟨i, List.mem_range.2 hi, by simp [h]⟩
theorem keysB_at {keys : List ByteArray} (h : keysB keys = true) {i : Nat} (hi : i < keys.length) : keyB keys i = true := by
  unfold keysB at h; rw [List.all_eq_true] at h; exact h i (List.mem_range.2 hi)
theorem hasK_take {ns : List ByteArray} {s : ByteArray} {k : Nat} (h : k < ns.length) : hasK (ns.take (k + 1)) s = (hasK (ns.take k) s || (ns[k].toList == s.toList)) := by
  unfold hasK; rw [List.take_succ_eq_append_getElem h, List.any_append]; simp
theorem hasK_of {ns : List ByteArray} {s : ByteArray} {k : Nat} (h : k < ns.length) (he : (ns[k].toList == s.toList) = true) : hasK ns s = true := by
  unfold hasK; rw [List.any_eq_true]; exact ⟨ns[k], List.getElem_mem h, he⟩
/-- No deep value: 0. -/
theorem outB_zero (h : Oh) (sub : Ous) : outB 0 h sub = false := rfl
theorem outB_head {d : Nat} {h : Oh} {sub : Ous} (hh : headB h sub = false) : outB d h sub = false := by simp [outB, oneO, hh]
theorem plain_nil {h : Oh} {sub : Ous} (hp : plainB h sub = true) : sub = .nil := by
  simp only [plainB, Bool.and_eq_true, decide_eq_true_eq] at hp
  exact Ous.nil_of hp.2
/-- A value without items. -/
theorem outB_leaf {d : Nat} {h : Oh} {sub : Ous} (hd : 0 < d) (hk : h.k = 0 ∨ h.k = 1 ∨ h.k = 2) : outB d h sub = headB h sub := by
  cases hh : headB h sub
  · exact outB_head hh
  · have hs : sub = .nil := by
      unfold headB at hh
      rcases hk with e | e | e <;> simp only [e] at hh <;> simp at hh <;> exact plain_nil hh.1.1
    subst hs
    simp [outB, oneO, hh, hd, okO, Ous.size]
theorem outB_big {d : Nat} {h : Oh} {sub : Ous} (hs : 4000 < 1 + sub.size) : outB d h sub = false := by
  simp only [outB]; rw [decide_eq_false (by omega)]; simp
theorem outB_sub {d : Nat} {h : Oh} {sub : Ous} (hs : okO (d - 1) sub = false) : outB d h sub = false := by simp [outB, oneO, hs]
theorem outB_yes {d : Nat} {h : Oh} {sub : Ous} (hd : 0 < d) (hh : headB h sub = true) (ho : okO (d - 1) sub = true) (hs : 1 + sub.size ≤ 4000) : outB d h sub = true := by
  simp [outB, oneO, hd, hh, ho, hs]
theorem outB_all {d : Nat} {h : Oh} {sub : Ous} (ho : outB d h sub = true) : 0 < d ∧ headB h sub = true ∧ okO (d - 1) sub = true ∧ 1 + sub.size ≤ 4000 := by
  simp only [outB, oneO, Bool.and_eq_true, decide_eq_true_eq] at ho
  exact ⟨ho.1.1.1, ho.1.1.2, ho.1.2, ho.2⟩
/-- The rule of lists and objects ahead of their items. -/
def groupB (h : Oh) (sub : Ous) : Bool := (h.k == 3 || h.k == 4) && (h.n == 0) && noT h && (!(h.k == 3) || decide (h.keys.length = 0)) && (!(h.k == 4) || decide (h.keys.length = sub.len))
theorem head_group {h : Oh} {sub : Ous} (hk : h.k ≠ 0 ∧ h.k ≠ 1 ∧ h.k ≠ 2) : headB h sub = (groupB h sub && (!(h.k == 4) || keysB h.keys)) := by
  unfold headB groupB
  rw [if_neg hk.1, if_neg hk.2.1, if_neg hk.2.2]
  by_cases h3 : h.k = 3
  · simp [h3]
  · rw [if_neg h3]
    by_cases h4 : h.k = 4
    · simp [h4]
    · rw [if_neg h4]; simp [h3, h4]
end Go.Proofs.YtdchpeifpiglmaaGreatDoor.G
namespace Go.Proofs.YtdchpeifpiglmaaGreatDoor
open Go.ChangeShapes Go.WideShapes Go.ChangeAt Go.RowKit
set_option linter.unusedVariables false

def intB (n : Int) : Bool := decide (-2147483648 ≤ n ∧ n ≤ 2147483647)
set_option maxHeartbeats 400000 in
theorem spec_isInt (n : Int) (w : World) : Calls Tryz.prog 81 #[.int .i64 n] w fun e w' => e = .returned (.bool (intB n)) ∧ w' = w := by
  go_enter Tryz.func81, Tryz.ntmps81
  go_wp2
  all_goals (go_ret; exact ⟨ret_bool (by unfold intB; rw [Bool.eq_iff_iff]; simp; omega), rfl⟩)
set_option maxHeartbeats 400000 in
theorem impl_isInt (n : Int) (w : World) : Calls Tryz.prog 94 #[.int .i64 n] w fun e w' => e = .returned (.bool (intB n)) ∧ w' = w := by
  go_enter Tryz.func94, Tryz.ntmps94
  go_wp2
  all_goals (go_ret; exact ⟨ret_bool (by unfold intB; rw [Bool.eq_iff_iff]; simp; omega), rfl⟩)
theorem spec_nameOK (s : ByteArray) (w : World) (hs : s.size ≤ maxLen) :
    Calls Tryz.prog 63 #[.string s] w fun e w' => e = .returned (.bool (nameB s)) ∧ w' = w := by
  go_enter Tryz.func63, Tryz.ntmps63
  go_wp2_with fail
  refine (word_any s _ hs).mono ?_
  rintro e w1 ⟨rfl, rfl⟩
  go_wp2_with fail
  go_ret
  exact ⟨rfl, rfl⟩
theorem impl_nameOK (s : ByteArray) (w : World) (hs : s.size ≤ maxLen) :
    Calls Tryz.prog 88 #[.string s] w fun e w' => e = .returned (.bool (nameB s)) ∧ Below w.heap.size w w' := by
  refine (nameOK_any s w hs).mono ?_
  rintro e w1 ⟨rfl, hw⟩
  refine ⟨rfl, ?_⟩
  rcases hw with rfl | ⟨pos, rfl⟩
  · exact Below.refl _ _
  · exact (Below.refl _ _).alloc (Nat.le_refl _) _

theorem bcell {W w1 : World} (hb : Below W.heap.size W w1) : (∀ b o, b < W.heap.size → w1.cell? ⟨b, o, none⟩ = W.cell? ⟨b, o, none⟩) ∧ (∀ b o, b < W.heap.size → w1.frozen? ⟨b, o, none⟩ = W.frozen? ⟨b, o, none⟩) :=
  ⟨fun b o h => hb.cell (p := ⟨b, o, none⟩) h, fun b o h => hb.frozen (p := ⟨b, o, none⟩) h⟩

theorem ret_int {k : IntKind} {a b : Int} (h : a = b) : Ending.returned (.int k a) = .returned (.int k b) := by rw [h]
end Go.Proofs.YtdchpeifpiglmaaGreatDoor
namespace Go.Proofs.YtdchpeifpiglmaaGreatDoor
open Go.ChangeShapes Go.WideShapes Go.ChangeAt Go.RowKit
set_option linter.unusedVariables false

theorem conv1 (n : Int) (W : World) (b : Nat) (hc : W.cell? ⟨b, 0, none⟩ = some (.int .u8 n)) :
    (convert 121 9 (.slice (some ⟨b, 0, none⟩) 1 1)).run Tryz.prog W = .ok (.string ⟨#[UInt8.ofNat n.toNat]⟩) W := by
  rw [run_convert_bytes_string W 121 9 5 _ 1 1 Tryz.underlying121 Tryz.underlying5 Tryz.underlying9]
  rw [run_bytesToString W ⟨b, 0, none⟩ 1 1 [n] (run_loadCells_list W ⟨b, 0, none⟩ [.int .u8 n] (fun j v hv => by
    cases j with
    | zero => simp at hv; subst hv; simpa [Addr.add] using hc
    | succ j => simp at hv))]
  rfl
theorem ret_str {a b : ByteArray} (h : a = b) : Ending.returned (.string a) = .returned (.string b) := by rw [h]

set_option maxHeartbeats 1000000 in
theorem digs_small (n : Int) (w : World) (h0 : 0 ≤ n) (h1 : n < 10) :
    Calls Tryz.prog 84 #[.int .i64 n] w fun e w' => e = .returned (.string ⟨(Lib.decDigits n.toNat).toArray⟩) ∧ Below w.heap.size w w' := by
  have g0 : (n == -9223372036854775808) = false := by rw [beq_eq_false_iff_ne]; omega
  have HF : Hid ((⟨#[UInt8.ofNat (48 + n).toNat]⟩ : ByteArray) = ⟨(Lib.decDigits n.toNat).toArray⟩) := by
    unfold Hid; rw [Lib.decDigits_one (by omega), show (48 + n).toNat = 48 + n.toNat by omega]
  have hcv := conv1 (48 + n)
  go_enter Tryz.func84, Tryz.ntmps84
  go_wp2_with fail
  go_ret
  exact ⟨ret_str HF.out, (Below.refl _ _).alloc (Nat.le_refl _) _⟩

theorem quo10 (n : Int) (h0 : 0 ≤ n) (h1 : n ≤ 9223372036854775807) : IntKind.i64.wrap (n.tdiv 10) = n / 10 := by
  rw [Int.tdiv_eq_ediv_of_nonneg h0, wrap_small _ (by omega) (by omega)]
theorem rem10 (n : Int) (h0 : 0 ≤ n) : IntKind.u8.wrap (IntKind.i64.wrap (48 + n.tmod 10)) = 48 + n % 10 := by
  rw [Int.tmod_eq_emod_of_nonneg h0, wrap_small _ (by omega) (by omega), IntKind.wrap_u8]; omega
theorem digs_step (n : Int) (h0 : 0 ≤ n) (hn : ¬ n < 10) : (⟨(Lib.decDigits (n / 10).toNat).toArray⟩ : ByteArray) ++ (⟨#[UInt8.ofNat (48 + n % 10).toNat]⟩ : ByteArray) = ⟨(Lib.decDigits n.toNat).toArray⟩ := by
  rw [Lib.decDigits.eq_def n.toNat, dif_neg (by omega), show n.toNat / 10 = (n / 10).toNat by omega, show (48 + n % 10).toNat = 48 + n.toNat % 10 by omega]
  generalize Lib.decDigits (n / 10).toNat = D
  apply ByteArray.ext
  simp
theorem digs_len (n : Int) (h1 : n ≤ 9223372036854775807) : (⟨(Lib.decDigits n.toNat).toArray⟩ : ByteArray).size ≤ 20 := by
  have := Lib.nDigits_le20 n.toNat (by omega)
  rw [← Lib.decDigits_length] at this
  exact this

set_option maxHeartbeats 400000 in
theorem digs_nat (k : Nat) : ∀ (n : Int) (w : World), n ≤ k → 0 ≤ n → n ≤ 9223372036854775807 →
    Calls Tryz.prog 84 #[.int .i64 n] w fun e w' => e = .returned (.string ⟨(Lib.decDigits n.toNat).toArray⟩) ∧ Below w.heap.size w w' := by
  induction k with
  | zero =>
    intro n w hk h0 h1
    exact digs_small n w h0 (by omega)
  | succ k ih =>
    intro n w hk h0 h1
    by_cases hn : n < 10
    · exact digs_small n w h0 hn
    have g0 : (n == -9223372036854775808) = false := by rw [beq_eq_false_iff_ne]; omega
    have HS : Hid _ := digs_step n h0 hn
    have hln := digs_len (n / 10) (by omega)
    have hcv := conv1 (48 + n % 10)
    have e1 := quo10 n h0 h1
    have e2 := rem10 n h0
    have HI : Hid (∀ W : World, Calls Tryz.prog 84 #[.int .i64 (n / 10)] W fun e w' => e = .returned (.string ⟨(Lib.decDigits (n / 10).toNat).toArray⟩) ∧ Below W.heap.size W w') := fun W => ih (n / 10) W (by omega) (by omega) (by omega)
    clear ih hk
    have hS1 : (⟨#[UInt8.ofNat (48 + n % 10).toNat]⟩ : ByteArray).size = 1 := rfl
    generalize (⟨(Lib.decDigits (n / 10).toNat).toArray⟩ : ByteArray) = S at *
    generalize (⟨#[UInt8.ofNat (48 + n % 10).toNat]⟩ : ByteArray) = T at *
    have hno : ¬ (9223372036854775807 < S.size + T.size) := by omega
    clear hS1 hln
    go_enter Tryz.func84, Tryz.ntmps84
    go_wp2_with fail
    go_region_with (go_at_call 84; refine (HI.out _).mono ?_; rintro e w1 ⟨rfl, hb1⟩; obtain ⟨hc1, hf1⟩ := bcell hb1)
    all_goals
      have q : Below w.heap.size w w1 := by
        have q1 := hb1.size
        first
          | exact ((Below.refl _ _).drew).trans (hb1.mono (Nat.le_refl _))
          | exact (((Below.refl _ _).alloc (Nat.le_refl _) _).drew).trans (hb1.mono (by simp))
      go_wp2_with fail
      go_ret
      refine ⟨ret_str HS.out, ?_⟩
      first
        | exact q
        | exact q.alloc q.size _

set_option maxHeartbeats 1000000 in
theorem digs_any (n : Int) (w : World) (h0 : -9223372036854775807 ≤ n) (h1 : n ≤ 9223372036854775807) :
    Calls Tryz.prog 84 #[.int .i64 n] w fun e w' => e = .returned (.string ⟨(Lib.itoa n).toArray⟩) ∧ Below w.heap.size w w' := by
  by_cases hn : n < 0
  · have g0 : (n == -9223372036854775808) = false := by rw [beq_eq_false_iff_ne]; omega
    have HF : Hid ((⟨#[45]⟩ : ByteArray) ++ ⟨(Lib.decDigits (-n).toNat).toArray⟩ = ⟨(Lib.itoa n).toArray⟩) := by
      unfold Hid Lib.itoa; rw [if_pos hn, show n.natAbs = (-n).toNat by omega]
      apply ByteArray.ext
      simp
    have hln := digs_len (-n) (by omega)
    have HI : Hid (∀ W : World, Calls Tryz.prog 84 #[.int .i64 (-n)] W fun e w' => e = .returned (.string ⟨(Lib.decDigits (-n).toNat).toArray⟩) ∧ Below W.heap.size W w') := fun W => digs_nat (-n).toNat (-n) W (by omega) (by omega) (by omega)
    generalize (⟨(Lib.decDigits (-n).toNat).toArray⟩ : ByteArray) = S at *
    have hno : ¬ (9223372036854775807 < (⟨#[45]⟩ : ByteArray).size + S.size) := by have : (⟨#[45]⟩ : ByteArray).size = 1 := rfl; omega
    go_enter Tryz.func84, Tryz.ntmps84
    go_wp2_with (go_at_call 84; refine (HI.out _).mono ?_; rintro e w1 ⟨rfl, hb1⟩)
    go_ret
    exact ⟨ret_str HF.out, hb1⟩
  · refine (digs_nat n.toNat n w (by omega) (by omega) h1).mono ?_
    rintro e w1 ⟨rfl, hb⟩
    exact ⟨ret_str (by unfold Lib.itoa; rw [if_neg hn]), hb⟩
end Go.Proofs.YtdchpeifpiglmaaGreatDoor
namespace Go.Proofs.YtdchpeifpiglmaaGreatDoor.G
open Go.ChangeShapes Go.WideShapes Go.ChangeAt Go.RowKit
set_option linter.unusedVariables false

/-- The first k texts, a comma between each two. -/
def cjTo (ss : List ByteArray) : Nat → ByteArray
  | 0 => ⟨#[]⟩
  | k + 1 => (if 0 < k then cjTo ss k ++ ⟨#[44]⟩ else cjTo ss k) ++ ss.getD k ⟨#[]⟩
def cj (ss : List ByteArray) : ByteArray := cjTo ss ss.length
def keyed (ob : Bool) (k s : ByteArray) : ByteArray := if ob = true then ⟨#[34]⟩ ++ k ++ ⟨#[34, 58]⟩ ++ s else s
def endsA (h : Oh) : ByteArray := if h.k = 4 then ⟨#[123]⟩ else ⟨#[91]⟩
def endsB (h : Oh) : ByteArray := if h.k = 4 then ⟨#[125]⟩ else ⟨#[93]⟩
def valT (h : Oh) (ws : List ByteArray) : ByteArray :=
  if h.k = 0 then ⟨#[110, 117, 108, 108]⟩
  else if h.k = 1 then ⟨(Lib.itoa h.n).toArray⟩
  else if h.k = 2 then ⟨#[34]⟩ ++ h.t ++ ⟨#[34]⟩
  else endsA h ++ cj ws ++ endsB h
def wordsO : Bool → List ByteArray → Ous → List ByteArray
  | _, _, .nil => []
  | ob, ks, .cons h sub rest => keyed ob (ks.headD ⟨#[]⟩) (valT h (wordsO (h.k == 4) h.keys sub)) :: wordsO ob ks.tail rest
def outT (h : Oh) (sub : Ous) : ByteArray := valT h (wordsO (h.k == 4) h.keys sub)
/-- The bytes of texts and a comma each. -/
def sumW (ss : List ByteArray) : Nat := (ss.map fun s => s.size + 1).sum
theorem sumW_nil : sumW [] = 0 := rfl
theorem sumW_cons (s : ByteArray) (ss : List ByteArray) : sumW (s :: ss) = s.size + 1 + sumW ss := by simp [sumW]
theorem sumW_app (a b : List ByteArray) : sumW (a ++ b) = sumW a + sumW b := by simp [sumW, List.sum_append]
theorem mem_sumW {s : ByteArray} : ∀ {ss : List ByteArray}, s ∈ ss → s.size + 1 ≤ sumW ss
  | [], h => by cases h
  | x :: ss, h => by
    rw [sumW_cons]
    rcases List.mem_cons.1 h with rfl | h
    · omega
    · have := mem_sumW h; omega
theorem len_sumW : ∀ ss : List ByteArray, ss.length ≤ sumW ss
  | [] => Nat.zero_le _
  | x :: ss => by rw [sumW_cons, List.length_cons]; have := len_sumW ss; omega
theorem cjTo_size {ss : List ByteArray} : ∀ k, k ≤ ss.length → (cjTo ss k).size ≤ sumW (ss.take k)
  | 0, _ => Nat.le_refl _
  | k + 1, hk => by
    have ih := cjTo_size (ss := ss) k (by omega)
    have hg : ss.getD k ⟨#[]⟩ = ss[k] := by rw [List.getD_eq_getElem?_getD, List.getElem?_eq_getElem (by omega)]; rfl
    have h1 : (⟨#[44]⟩ : ByteArray).size = 1 := rfl
    rw [cjTo, hg, List.take_succ_eq_append_getElem (by omega), sumW_app, sumW_cons, sumW_nil]
    split
    · rw [ByteArray.size_append, ByteArray.size_append]; omega
    · rw [ByteArray.size_append]; omega
theorem cj_size (ss : List ByteArray) : (cj ss).size ≤ sumW ss := by
  have := cjTo_size (ss := ss) ss.length (Nat.le_refl _)
  rw [List.take_length] at this; exact this
theorem name_size {s : ByteArray} (h : nameB s = true) : s.size ≤ 40 := by
  simp only [nameB, Bool.and_eq_true, decide_eq_true_eq] at h; exact h.1.1.2
theorem itoa_size {n : Int} (h : intO n = true) : (⟨(Lib.itoa n).toArray⟩ : ByteArray).size ≤ 21 := by
  simp only [intO, decide_eq_true_eq] at h
  unfold Lib.itoa
  have e : ∀ l : List UInt8, (⟨l.toArray⟩ : ByteArray).size = l.length := fun l => by simp [ByteArray.size]
  rw [e]
  have := Lib.nDigits_le20 n.natAbs (by omega)
  rw [← Lib.decDigits_length] at this
  split
  · simp; omega
  · have h2 : n.natAbs = n.toNat := by omega
    rw [h2] at this; omega
theorem keys_size {ks : List ByteArray} (h : keysB ks = true) : ∀ k ∈ ks, k.size ≤ 40 := fun k hk => by
  obtain ⟨i, hi, rfl⟩ := List.getElem_of_mem hk
  have := keysB_at h hi
  rw [keyB_eq hi, Bool.and_eq_true] at this
  exact name_size this.1
theorem keyed_size (ob : Bool) (k s : ByteArray) : (keyed ob k s).size ≤ k.size + 3 + s.size := by
  have h1 : (⟨#[34]⟩ : ByteArray).size = 1 := rfl
  have h2 : (⟨#[34, 58]⟩ : ByteArray).size = 2 := rfl
  unfold keyed
  split
  · rw [ByteArray.size_append, ByteArray.size_append, ByteArray.size_append]; omega
  · omega
theorem endsA_size (h : Oh) : (endsA h).size = 1 := by unfold endsA; split <;> rfl
theorem endsB_size (h : Oh) : (endsB h).size = 1 := by unfold endsB; split <;> rfl
theorem valT_size {h : Oh} {sub : Ous} {ws : List ByteArray} (hh : headB h sub = true) : (valT h ws).size ≤ 42 + sumW ws := by
  have h1 : (⟨#[34]⟩ : ByteArray).size = 1 := rfl
  have h4 : (⟨#[110, 117, 108, 108]⟩ : ByteArray).size = 4 := rfl
  unfold valT
  unfold headB at hh
  by_cases k0 : h.k = 0
  · rw [if_pos k0]; omega
  rw [if_neg k0] at hh ⊢
  by_cases k1 : h.k = 1
  · rw [if_pos k1] at hh ⊢
    simp only [Bool.and_eq_true] at hh
    have := itoa_size hh.1.2
    omega
  rw [if_neg k1] at hh ⊢
  by_cases k2 : h.k = 2
  · rw [if_pos k2] at hh ⊢
    simp only [Bool.and_eq_true] at hh
    have := name_size hh.2
    rw [ByteArray.size_append, ByteArray.size_append]; omega
  · rw [if_neg k2]
    have := cj_size ws
    rw [ByteArray.size_append, ByteArray.size_append, endsA_size, endsB_size]; omega
theorem head_keys {h : Oh} {sub : Ous} (hh : headB h sub = true) (hk : (h.k == 4) = true) : ∀ k ∈ h.keys, k.size ≤ 40 := by
  have e : h.k = 4 := by simpa using hk
  have := head_group (h := h) (sub := sub) (by omega)
  rw [hh, e] at this
  simp at this
  exact keys_size this.2
theorem words_size : ∀ (l : Ous) (d : Nat) (ob : Bool) (ks : List ByteArray), okO d l = true → (ob = true → ∀ k ∈ ks, k.size ≤ 40) → sumW (wordsO ob ks l) ≤ 120 * l.size
  | .nil, d, ob, ks, _, _ => Nat.zero_le _
  | .cons h sub rest, d, ob, ks, hok, hks => by
    rw [okO_cons, Bool.and_eq_true] at hok
    obtain ⟨h1, h2⟩ := hok
    simp only [oneO, Bool.and_eq_true] at h1
    have ih1 := words_size sub (d - 1) (h.k == 4) h.keys h1.2 (fun e => head_keys h1.1.2 e)
    have ih2 := words_size rest d ob ks.tail h2 (fun e k hk => hks e k (List.mem_of_mem_tail hk))
    have hv := valT_size (ws := wordsO (h.k == 4) h.keys sub) h1.1.2
    rw [wordsO, sumW_cons]
    have hw : (keyed ob (ks.headD ⟨#[]⟩) (valT h (wordsO (h.k == 4) h.keys sub))).size ≤ 43 + (valT h (wordsO (h.k == 4) h.keys sub)).size := by
      cases ob
      · simp [keyed]
      · have hkz : (ks.headD ⟨#[]⟩).size ≤ 40 := by
          cases ks with
          | nil => exact Nat.zero_le _
          | cons x ks => exact hks rfl x (by simp)
        have := keyed_size true (ks.headD ⟨#[]⟩) (valT h (wordsO (h.k == 4) h.keys sub))
        omega
    simp only [Ous.size]
    omega
theorem outT_size {d : Nat} {h : Oh} {sub : Ous} (ho : outB d h sub = true) : (outT h sub).size ≤ 480042 := by
  obtain ⟨_, h1, h2, h3⟩ := outB_all ho
  have := valT_size (ws := wordsO (h.k == 4) h.keys sub) h1
  have := words_size sub (d - 1) (h.k == 4) h.keys h2 (fun e => head_keys h1 e)
  unfold outT
  omega
/-- A row of texts that may grow. -/
def kV (l : List ByteArray) : List Value := l.map Value.string
theorem kV_len (l : List ByteArray) : (kV l).length = l.length := by simp [kV]
theorem kV_row {w : World} {base : Nat} {v : Value} {l : List ByteArray} (h : w.ownsRow base 9 1 v l.length (kV l)) : ∃ a c, v = .slice a l.length c ∧ KeRow 0 w.heap.size w a l := by
  rcases h.2 with ⟨rfl, h0⟩ | ⟨g, cap, cur, rfl, h1, h2, h3, h4, h5, h6⟩
  · have : l = [] := List.eq_nil_of_length_eq_zero h0
    subst this
    exact ⟨none, 0, rfl, .inl rfl⟩
  · refine ⟨_, cap, rfl, .inr ⟨g, 0, rfl, Nat.zero_le _, (Array.getElem?_eq_some_iff.1 h2).1, fun i z hz => ?_⟩⟩
    have hi := (List.getElem?_eq_some_iff.1 hz).1
    rw [row_rd h2]
    show cur[0 + i * 1]? = _
    rw [Nat.mul_one, Nat.zero_add]
    have e : (kV l)[i]? = some (.string z) := by simp [kV, hz]
    rw [← h6, List.getElem?_take, if_pos (by omega)] at e
    simpa using e
end Go.Proofs.YtdchpeifpiglmaaGreatDoor.G
namespace Go.Proofs.YtdchpeifpiglmaaGreatDoor.G
open Go.ChangeShapes Go.WideShapes Go.ChangeAt Go.RowKit
set_option linter.unusedVariables false

theorem sumW_take {l : List ByteArray} {k : Nat} (h : k < l.length) : sumW (l.take (k + 1)) = sumW (l.take k) + l[k].size + 1 := by
  rw [List.take_succ_eq_append_getElem h, sumW_app, sumW_cons, sumW_nil]; omega
set_option maxHeartbeats 1000000 in
theorem sz_texts (a : Option Addr) (c : Nat) (l : List ByteArray) (n : Int) (w : World) (hr : KeRow 0 w.heap.size w a l) (hl : l.length ≤ maxLen) (ht : ∀ x ∈ l, x.size ≤ maxLen) (h0 : 0 ≤ n) (h1 : n ≤ 1048576) :
    Calls Tryz.prog 21 #[.slice a l.length c, .int .i64 n] w fun e w' => ∃ m, e = .returned (.int .i64 m) ∧ Sz n m (sumW l ≤ 1048576) ∧ w' = w := by
  unfold maxLen at hl
  by_cases hz : n - l.length < 0
  · go_enter Tryz.func21, Tryz.ntmps21
    go_wp2_with fail
    go_ret
    exact ⟨-1, rfl, Sz.neg h0, rfl⟩
  · have HR : Hid (KeRow 0 w.heap.size w a l) := hr
    have HT : Hid (∀ x ∈ l, x.size ≤ maxLen) := ht
    clear hr ht
    go_enter Tryz.func21, Tryz.ntmps21
    go_wp2_with fail
    go_loop [1, 5] (fun r i => ∃ (k : Nat) (m : Int), k ≤ l.length ∧ i = .int .i64 k ∧ r = .int .i64 m ∧ 0 ≤ m ∧ m ≤ n ∧ Hid (m + sumW (l.take k) + l.length = n + k)) (fun _ i => l.length - (intOf i).toNat)
    case atStart => exact ⟨0, _, by omega, rfl, rfl, by omega, by omega, by rw [Hid, List.take_zero, sumW_nil]; omega⟩
    case round =>
      obtain ⟨k, m, hk, rfl, rfl, hm0, hm1, HK⟩ := hrel
      by_cases hlt : k < l.length
      · obtain ⟨b, o, ha, _, hbl, c0⟩ := KeRow.cells HR.out k hlt
        subst ha
        have hx : l[k].size ≤ maxLen := HT.out l[k] (List.getElem_mem hlt)
        unfold maxLen at hx
        by_cases hneg : m - l[k].size < 0
        · go_wp2_with fail
          go_ret
          exact ⟨-1, rfl, Sz.neg h0, rfl⟩
        · go_wp2_with fail
          go_round
          case rel => exact ⟨k + 1, m - l[k].size, by omega, by go_num, by go_num, by omega, by omega, by have := HK.out; rw [Hid, sumW_take hlt]; omega⟩
          case measure => simp [intOf]; omega
      · go_wp2_with fail
        go_ret
        rw [List.take_of_length_le (by omega)] at HK
        exact ⟨m, rfl, ⟨hm1, by omega, fun _ => by have := HK.out; omega⟩, rfl⟩
end Go.Proofs.YtdchpeifpiglmaaGreatDoor.G
namespace Go.Proofs.YtdchpeifpiglmaaGreatDoor.G
open Go.ChangeShapes Go.WideShapes Go.ChangeAt Go.RowKit
set_option linter.unusedVariables false

/-- What is known of a run that is not too great. -/
def RnSm (r : Rn) : Prop := RnBd 1048576 r ∧ r.h.keys.length + wO r.sub ≤ 1048576 ∧ sumW r.es ≤ 1048576
set_option maxHeartbeats 2000000 in
theorem sz_run (r : Rn) (p : RnA) (n : Int) (w : World) (hr : RunRow 0 w.heap.size w p r) (hb : RnBd maxLen r) (h0 : 0 ≤ n) (h1 : n ≤ 1048576) :
    Calls Tryz.prog 5 #[.agg #[.int .i64 r.need, .slice p.ra r.rs.length p.rc, .slice p.wa r.ws.length p.wc, .int .i64 r.h.k, .int .i64 r.h.n, .string r.h.t, .slice p.a1 r.h.keys.length p.c1, .slice p.a2 r.sub.len p.c2, .slice p.ea r.es.length p.ec], .int .i64 n] w fun e w' => ∃ m, e = .returned (.int .i64 m) ∧ Sz n m (RnSm r) ∧ Below w.heap.size w w' := by
  have HB : Hid (Below w.heap.size w (w.alloc (.cells #[.int .i64 r.need, .slice p.ra r.rs.length p.rc, .slice p.wa r.ws.length p.wc, .int .i64 r.h.k, .int .i64 r.h.n, .string r.h.t, .slice p.a1 r.h.keys.length p.c1, .slice p.a2 r.sub.len p.c2, .slice p.ea r.es.length p.ec] 32))) := (Below.refl _ _).alloc (Nat.le_refl _) _
  obtain ⟨V, hV⟩ : ∃ V, V = w.alloc (.cells #[.int .i64 r.need, .slice p.ra r.rs.length p.rc, .slice p.wa r.ws.length p.wc, .int .i64 r.h.k, .int .i64 r.h.n, .string r.h.t, .slice p.a1 r.h.keys.length p.c1, .slice p.a2 r.sub.len p.c2, .slice p.ea r.es.length p.ec] 32) := ⟨_, rfl⟩
  rw [← hV] at HB
  have c0 : V.heap[w.heap.size]? = some (.cells #[.int .i64 r.need, .slice p.ra r.rs.length p.rc, .slice p.wa r.ws.length p.wc, .int .i64 r.h.k, .int .i64 r.h.n, .string r.h.t, .slice p.a1 r.h.keys.length p.c1, .slice p.a2 r.sub.len p.c2, .slice p.ea r.es.length p.ec] 32 (0, 0)) := by rw [hV]; exact heap_alloc_new _ _
  have zV := (Array.getElem?_eq_some_iff.1 c0).1
  have HR : Hid (RunRow 0 V.heap.size V p r) := hr.up HB.out
  have HD : Hid (RnBd maxLen r) := hb
  have C0 : Hid _ := c0
  have y0 := fun o => row_cell c0 o
  clear hr hb c0
  go_enter Tryz.func5, Tryz.ntmps5
  go_upto_region 1 with fail
  rw [← hV]
  clear hV
  go_wp2_with fail
  refine (sz_nums p.ra p.rc r.rs.length n _ HD.out.1 h0 h1).mono ?_
  rintro e w1 ⟨m1, rfl, hm, rfl⟩
  have M1 : Hid (Sz n m1 (r.rs.length ≤ 1048576)) := hm
  have hm1 := hm.1
  clear hm
  by_cases g1 : m1 < 0
  · go_wp2_with fail
    go_ret
    exact ⟨-1, rfl, Sz.neg h0, HB.out⟩
  go_wp2_with fail
  refine (sz_Pus p.wa p.wc r.ws.length m1 _ HD.out.2.1 (by omega) (by omega)).mono ?_
  rintro e w1 ⟨m2, rfl, hm, rfl⟩
  have M2 : Hid (Sz m1 m2 (r.ws.length ≤ 1048576)) := hm
  have hm2 := hm.1
  clear hm
  by_cases g2 : m2 < 0
  · go_wp2_with fail
    go_ret
    exact ⟨-1, rfl, Sz.neg h0, HB.out⟩
  go_wp2_with fail
  refine (sz_out_w r.h r.sub (sz_ous_w r.sub) p.a1 p.a2 p.c1 p.c2 m2 _ HR.out.2.2.1 HR.out.2.2.2.1 HD.out.2.2.1.1 HD.out.2.2.1.2.1 HD.out.2.2.1.2.2 (by omega) (by omega)).mono ?_
  rintro e w2 ⟨m3, rfl, hm, hb2⟩
  have M3 : Hid (Sz m2 m3 ((OhBd 1048576 r.h ∧ r.sub.len ≤ 1048576 ∧ OusBd 1048576 r.sub) ∧ m3 + r.h.keys.length + wO r.sub ≤ m2)) := hm
  have hm3 := hm.1
  have B2 : Hid (Below w.heap.size w w2) := HB.out.trans (hb2.mono HB.out.size)
  have y2 := fun o => row_cell ((hb2.block _ zV).trans C0.out) o
  have R2 : Hid (KeRow 0 w2.heap.size w2 p.ea r.es) := KeRow.up HR.out.2.2.2.2 hb2
  clear hm hb2 y0 C0 HR
  by_cases g3 : m3 < 0
  · go_wp2_with fail
    go_ret
    exact ⟨-1, rfl, Sz.neg h0, B2.out⟩
  go_wp2_with fail
  refine (sz_texts p.ea p.ec r.es m3 _ R2.out HD.out.2.2.2.1 HD.out.2.2.2.2 (by omega) (by omega)).mono ?_
  rintro e w3 ⟨m4, rfl, hm, rfl⟩
  have M4 : Hid (Sz m3 m4 (sumW r.es ≤ 1048576)) := hm
  have hm4 := hm.1
  clear hm y2
  by_cases g4 : m4 < 0
  · go_wp2_with fail
    go_ret
    exact ⟨-1, rfl, Sz.neg h0, B2.out⟩
  go_wp2_with fail
  go_ret
  refine ⟨m4, rfl, ⟨by omega, by omega, fun _ => ?_⟩, B2.out⟩
  have q3 := M3.out.2.2 (by omega)
  have q4 := M4.out.2.2 (by omega)
  refine ⟨⟨M1.out.2.2 (by omega), M2.out.2.2 (by omega), q3.1, ?_, fun x hx => ?_⟩, by omega, q4⟩
  · have := len_sumW r.es; omega
  · have := mem_sumW hx; omega
end Go.Proofs.YtdchpeifpiglmaaGreatDoor.G
namespace Go.Proofs.YtdchpeifpiglmaaGreatDoor
open Go.ChangeShapes Go.WideShapes Go.ChangeAt Go.RowKit
set_option linter.unusedVariables false

structure Va where
  k : Int
  n : Int
  t : ByteArray
structure Ar where
  nm : ByteArray
  v : Va
structure Di where
  sk : Bool
  v : Va
/-- A selection but for its set. -/
structure Hd where
  k : Int
  al : ByteArray
  nm : ByteArray
  args : List Ar
  dirs : List Di
/-- A set: its first selection, that one's own set, and the rest. -/
inductive Sels where
  | nil
  | cons (h : Hd) (sub rest : Sels)
structure De where
  k : Int
  nm : ByteArray
  on : ByteArray
  sels : Sels

namespace Sels
def len : Sels → Nat
  | .nil => 0
  | .cons _ _ rest => rest.len + 1
def size : Sels → Nat
  | .nil => 0
  | .cons _ sub rest => 1 + sub.size + rest.size
def isNil : Sels → Bool
  | .nil => true
  | .cons _ _ _ => false
theorem isNil_len (l : Sels) : l.isNil = decide (l.len = 0) := by cases l <;> simp [isNil, len]
theorem len_le_size : ∀ l : Sels, l.len ≤ l.size
  | .nil => Nat.le_refl _
  | .cons h sub rest => by have := len_le_size rest; simp [len, size]; omega
end Sels





/-- A reader of cells that holds an argument, a directive at a place. -/
def ArAt (rd : Nat → Option Value) (o : Nat) (x : Ar) : Prop := rd o = some (.string x.nm) ∧ rd (o + 1) = some (.int .i64 x.v.k) ∧ rd (o + 2) = some (.int .i64 x.v.n) ∧ rd (o + 3) = some (.string x.v.t)
def DiAt (rd : Nat → Option Value) (o : Nat) (x : Di) : Prop := rd o = some (.bool x.sk) ∧ rd (o + 1) = some (.int .i64 x.v.k) ∧ rd (o + 2) = some (.int .i64 x.v.n) ∧ rd (o + 3) = some (.string x.v.t)
/-- The cells of a block. -/
def rdOf (w : World) (b : Nat) : Nat → Option Value := fun j => w.cell? ⟨b, j, none⟩
/-- A row of elements of some cells each, in a block from lo up and below hi; any place where there is none. -/
def Row {α : Type} (at_ : (Nat → Option Value) → Nat → α → Prop) (z : Nat) (lo hi : Nat) (w : World) (a : Option Addr) (l : List α) : Prop :=
  l = [] ∨ ∃ b o, a = some ⟨b, o, none⟩ ∧ lo ≤ b ∧ b < hi ∧ ∀ i x, l[i]? = some x → at_ (rdOf w b) (o + i * z) x
abbrev ArRow := Row ArAt 4
abbrev DiRow := Row DiAt 4

/-- One selection's cells but the last. -/
def HdAt (lo hi : Nat) (w : World) (rd : Nat → Option Value) (o : Nat) (h : Hd) : Prop :=
  rd o = some (.int .i64 h.k) ∧ rd (o + 1) = some (.string h.al) ∧ rd (o + 2) = some (.string h.nm) ∧
  (∃ a c, rd (o + 3) = some (.slice a h.args.length c) ∧ ArRow lo hi w a h.args) ∧
  (∃ a c, rd (o + 4) = some (.slice a h.dirs.length c) ∧ DiRow lo hi w a h.dirs)

/-- The first k of a set. -/
def SelPre (lo hi : Nat) (w : World) : Sels → (Nat → Option Value) → Nat → Nat → Prop
  | .nil, _, _, _ => True
  | .cons h sub rest, rd, o, k => k = 0 ∨ (HdAt lo hi w rd o h ∧
      (∃ a c, rd (o + 5) = some (.slice a sub.len c) ∧ (sub = .nil ∨ ∃ b o', a = some ⟨b, o', none⟩ ∧ lo ≤ b ∧ b < hi ∧ SelPre lo hi w sub (rdOf w b) o' sub.len)) ∧
      SelPre lo hi w rest rd (o + 6) (k - 1))
def SelRow (lo hi : Nat) (w : World) (a : Option Addr) (l : Sels) : Prop :=
  l = .nil ∨ ∃ b o, a = some ⟨b, o, none⟩ ∧ lo ≤ b ∧ b < hi ∧ SelPre lo hi w l (rdOf w b) o l.len

def DeAt (lo hi : Nat) (w : World) (rd : Nat → Option Value) (o : Nat) (x : De) : Prop :=
  rd o = some (.int .i64 x.k) ∧ rd (o + 1) = some (.string x.nm) ∧ rd (o + 2) = some (.string x.on) ∧
  (∃ a c, rd (o + 3) = some (.slice a x.sels.len c) ∧ SelRow lo hi w a x.sels)
def DeRow (lo hi : Nat) (w : World) (a : Option Addr) (l : List De) : Prop := Row (DeAt lo hi w) 4 lo hi w a l

/-- Two worlds agree on the blocks from lo up and below hi. -/
def Agree (lo hi : Nat) (w w' : World) : Prop := ∀ g, lo ≤ g → g < hi → w'.heap[g]? = w.heap[g]?
theorem Agree.rd {lo hi : Nat} {w w' : World} (h : Agree lo hi w w') {b : Nat} (h1 : lo ≤ b) (h2 : b < hi) : rdOf w' b = rdOf w b := by
  funext j; simp only [rdOf, World.cell?, h b h1 h2]
theorem Below.agree {B : Nat} {w w' : World} (h : Below B w w') {lo hi : Nat} (hh : hi ≤ B) : Agree lo hi w w' := fun g _ h2 => h.block g (by omega)

theorem Row.keep {α : Type} {at_ : (Nat → Option Value) → Nat → α → Prop} {z lo hi : Nat} {w w' : World} {a : Option Addr} {l : List α} (h : Row at_ z lo hi w a l) (hk : Agree lo hi w w') : Row at_ z lo hi w' a l := by
  rcases h with h | ⟨b, o, rfl, h1, h2, h3⟩
  · exact .inl h
  · exact .inr ⟨b, o, rfl, h1, h2, by rw [hk.rd h1 h2]; exact h3⟩
theorem Row.wide {α : Type} {at_ : (Nat → Option Value) → Nat → α → Prop} {z lo hi lo' hi' : Nat} {w : World} {a : Option Addr} {l : List α} (h : Row at_ z lo hi w a l) (h1 : lo' ≤ lo) (h2 : hi ≤ hi') : Row at_ z lo' hi' w a l := by
  rcases h with h | ⟨b, o, rfl, h3, h4, h5⟩
  · exact .inl h
  · exact .inr ⟨b, o, rfl, by omega, by omega, h5⟩
theorem Row.at_ {α : Type} {at_ : (Nat → Option Value) → Nat → α → Prop} {z lo hi : Nat} {w : World} {a : Option Addr} {l : List α} (h : Row at_ z lo hi w a l) (k : Nat) (hk : k < l.length) :
    ∃ b o, a = some ⟨b, o, none⟩ ∧ lo ≤ b ∧ b < hi ∧ at_ (rdOf w b) (o + k * z) l[k] := by
  rcases h with rfl | ⟨b, o, rfl, h1, h2, h3⟩
  · simp at hk
  · exact ⟨b, o, rfl, h1, h2, h3 k l[k] (List.getElem?_eq_getElem hk)⟩
theorem HdAt.keep {lo hi : Nat} {w w' : World} {rd : Nat → Option Value} {o : Nat} {h : Hd} (hh : HdAt lo hi w rd o h) (hk : Agree lo hi w w') : HdAt lo hi w' rd o h := by
  obtain ⟨h0, h1, h2, ⟨a, c, h3, h3'⟩, ⟨a', c', h4, h4'⟩⟩ := hh
  exact ⟨h0, h1, h2, ⟨a, c, h3, h3'.keep hk⟩, ⟨a', c', h4, h4'.keep hk⟩⟩
theorem HdAt.wide {lo hi lo' hi' : Nat} {w : World} {rd : Nat → Option Value} {o : Nat} {h : Hd} (hh : HdAt lo hi w rd o h) (e1 : lo' ≤ lo) (e2 : hi ≤ hi') : HdAt lo' hi' w rd o h := by
  obtain ⟨h0, h1, h2, ⟨a, c, h3, h3'⟩, ⟨a', c', h4, h4'⟩⟩ := hh
  exact ⟨h0, h1, h2, ⟨a, c, h3, h3'.wide e1 e2⟩, ⟨a', c', h4, h4'.wide e1 e2⟩⟩
theorem SelPre.keep {lo hi : Nat} {w w' : World} (hk : Agree lo hi w w') : ∀ {l : Sels} {rd : Nat → Option Value} {o k : Nat}, SelPre lo hi w l rd o k → SelPre lo hi w' l rd o k
  | .nil, _, _, _, _ => trivial
  | .cons h sub rest, rd, o, k, hp => by
    rcases hp with hp | ⟨p1, ⟨a, c, p2, p3⟩, p4⟩
    · exact .inl hp
    · refine .inr ⟨p1.keep hk, ⟨a, c, p2, ?_⟩, SelPre.keep hk p4⟩
      rcases p3 with p3 | ⟨b, o', e, e1, e2, p3⟩
      · exact .inl p3
      · exact .inr ⟨b, o', e, e1, e2, by rw [hk.rd e1 e2]; exact SelPre.keep hk p3⟩
theorem SelPre.wide {lo hi lo' hi' : Nat} {w : World} (e1 : lo' ≤ lo) (e2 : hi ≤ hi') : ∀ {l : Sels} {rd : Nat → Option Value} {o k : Nat}, SelPre lo hi w l rd o k → SelPre lo' hi' w l rd o k
  | .nil, _, _, _, _ => trivial
  | .cons h sub rest, rd, o, k, hp => by
    rcases hp with hp | ⟨p1, ⟨a, c, p2, p3⟩, p4⟩
    · exact .inl hp
    · refine .inr ⟨p1.wide e1 e2, ⟨a, c, p2, ?_⟩, SelPre.wide e1 e2 p4⟩
      rcases p3 with p3 | ⟨b, o', e, f1, f2, p3⟩
      · exact .inl p3
      · exact .inr ⟨b, o', e, by omega, by omega, SelPre.wide e1 e2 p3⟩
theorem SelRow.keep {lo hi : Nat} {w w' : World} {a : Option Addr} {l : Sels} (h : SelRow lo hi w a l) (hk : Agree lo hi w w') : SelRow lo hi w' a l := by
  rcases h with h | ⟨b, o, rfl, h1, h2, h3⟩
  · exact .inl h
  · exact .inr ⟨b, o, rfl, h1, h2, by rw [hk.rd h1 h2]; exact h3.keep hk⟩
theorem SelRow.wide {lo hi lo' hi' : Nat} {w : World} {a : Option Addr} {l : Sels} (h : SelRow lo hi w a l) (e1 : lo' ≤ lo) (e2 : hi ≤ hi') : SelRow lo' hi' w a l := by
  rcases h with h | ⟨b, o, rfl, h1, h2, h3⟩
  · exact .inl h
  · exact .inr ⟨b, o, rfl, by omega, by omega, h3.wide e1 e2⟩
theorem DeAt.keep {lo hi : Nat} {w w' : World} {rd : Nat → Option Value} {o : Nat} {x : De} (hh : DeAt lo hi w rd o x) (hk : Agree lo hi w w') : DeAt lo hi w' rd o x := by
  obtain ⟨h0, h1, h2, ⟨a, c, h3, h3'⟩⟩ := hh
  exact ⟨h0, h1, h2, ⟨a, c, h3, h3'.keep hk⟩⟩
theorem DeAt.wide {lo hi lo' hi' : Nat} {w : World} {rd : Nat → Option Value} {o : Nat} {x : De} (hh : DeAt lo hi w rd o x) (e1 : lo' ≤ lo) (e2 : hi ≤ hi') : DeAt lo' hi' w rd o x := by
  obtain ⟨h0, h1, h2, ⟨a, c, h3, h3'⟩⟩ := hh
  exact ⟨h0, h1, h2, ⟨a, c, h3, h3'.wide e1 e2⟩⟩
theorem DeRow.keep {lo hi : Nat} {w w' : World} {a : Option Addr} {l : List De} (h : DeRow lo hi w a l) (hk : Agree lo hi w w') : DeRow lo hi w' a l := by
  rcases h with h | ⟨b, o, rfl, h1, h2, h3⟩
  · exact .inl h
  · exact .inr ⟨b, o, rfl, h1, h2, fun i x hx => by rw [hk.rd h1 h2]; exact (h3 i x hx).keep hk⟩
theorem DeRow.wide {lo hi lo' hi' : Nat} {w : World} {a : Option Addr} {l : List De} (h : DeRow lo hi w a l) (e1 : lo' ≤ lo) (e2 : hi ≤ hi') : DeRow lo' hi' w a l := by
  rcases h with h | ⟨b, o, rfl, h1, h2, h3⟩
  · exact .inl h
  · exact .inr ⟨b, o, rfl, by omega, by omega, fun i x hx => (h3 i x hx).wide e1 e2⟩
/-- The first of a set and the rest of it. -/
theorem SelPre.head {lo hi : Nat} {w : World} {h : Hd} {sub rest : Sels} {rd : Nat → Option Value} {o : Nat} (hp : SelPre lo hi w (.cons h sub rest) rd o (rest.len + 1)) :
    HdAt lo hi w rd o h ∧ (∃ a c, rd (o + 5) = some (.slice a sub.len c) ∧ SelRow lo hi w a sub) ∧ SelPre lo hi w rest rd (o + 6) rest.len := by
  rcases hp with hp | ⟨p1, p2, p3⟩
  · omega
  · exact ⟨p1, p2, p3⟩
/-- Selections ahead of a set. -/
def app : List (Hd × Sels) → Sels → Sels
  | [], r => r
  | x :: p, r => .cons x.1 x.2 (app p r)
theorem app_snoc : ∀ (p : List (Hd × Sels)) (h : Hd) (sub rest : Sels), app (p ++ [(h, sub)]) rest = app p (.cons h sub rest)
  | [], _, _, _ => rfl
  | x :: p, h, sub, rest => by simp only [List.cons_append, app]; rw [app_snoc p]
theorem app_len : ∀ (p : List (Hd × Sels)) (r : Sels), (app p r).len = p.length + r.len
  | [], r => by simp [app]
  | x :: p, r => by simp only [app, Sels.len, List.length_cons]; rw [app_len p]; omega
/-- The k-th of a set is laid, those ahead of it were: then one more is. -/
theorem SelPre.more {lo hi : Nat} {w : World} {rd : Nat → Option Value} {h : Hd} {sub rest : Sels} : ∀ (pre : List (Hd × Sels)) {o : Nat}, SelPre lo hi w (app pre (.cons h sub rest)) rd o pre.length →
    HdAt lo hi w rd (o + 6 * pre.length) h → (∃ a c, rd (o + 6 * pre.length + 5) = some (.slice a sub.len c) ∧ SelRow lo hi w a sub) → SelPre lo hi w (app pre (.cons h sub rest)) rd o (pre.length + 1)
  | [], o, hp, hh, hs => by
    refine .inr ⟨by simpa using hh, by simpa [SelRow] using hs, ?_⟩
    cases rest with
    | nil => exact trivial
    | cons _ _ _ => exact .inl rfl
  | x :: pre, o, hp, hh, hs => by
    rcases hp with hp | ⟨p1, p2, p3⟩
    · simp at hp
    · refine .inr ⟨p1, p2, ?_⟩
      simp only [List.length_cons] at hh hs ⊢
      exact SelPre.more pre (by simpa using p3) (by rw [show o + 6 + 6 * pre.length = o + 6 * (pre.length + 1) by omega]; exact hh) (by rw [show o + 6 + 6 * pre.length + 5 = o + 6 * (pre.length + 1) + 5 by omega]; exact hs)
/-- Only the cells of the first k count. -/
theorem SelPre.cells {lo hi : Nat} {w : World} {rd rd' : Nat → Option Value} : ∀ {l : Sels} {o k : Nat}, SelPre lo hi w l rd o k → (∀ j, o ≤ j → j < o + 6 * k → rd' j = rd j) → SelPre lo hi w l rd' o k
  | .nil, _, _, _, _ => trivial
  | .cons h sub rest, o, k, hp, hc => by
    rcases hp with hp | ⟨⟨h0, h1, h2, ⟨a1, c1, h3, h3'⟩, ⟨a2, c2, h4, h4'⟩⟩, ⟨a, c, p2, p2'⟩, p3⟩
    · exact .inl hp
    · by_cases hk : k = 0
      · exact .inl hk
      · refine .inr ⟨⟨(hc _ (by omega) (by omega)).trans h0, (hc _ (by omega) (by omega)).trans h1, (hc _ (by omega) (by omega)).trans h2, ⟨a1, c1, (hc _ (by omega) (by omega)).trans h3, h3'⟩, ⟨a2, c2, (hc _ (by omega) (by omega)).trans h4, h4'⟩⟩, ⟨a, c, (hc _ (by omega) (by omega)).trans p2, p2'⟩, ?_⟩
        exact p3.cells fun j hj hj' => hc j (by omega) (by omega)
end Go.Proofs.YtdchpeifpiglmaaGreatDoor
