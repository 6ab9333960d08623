/- The texts of answers' values, in plain terms; texts put together with commas. -/
import Derived.Test.YtoaeggfnlenjkaaGreatDoorDigitsD
import Derived.Deep.AppendLies
namespace Go.Proofs.YtoaeggfnlenjkaaGreatDoor.G
open Go.ChangeShapes Go.WideShapes Go.ChangeAt Go.RowKit
set_option linter.unusedVariables false

/-- The first k texts, a comma between each two. -/
def cjTo (ss : List ByteArray) : Nat → ByteArray
  | 0 => ⟨#[]⟩
  | k + 1 => (if 0 < k then cjTo ss k ++ ⟨#[44]⟩ else cjTo ss k) ++ ss.getD k ⟨#[]⟩
def cj (ss : List ByteArray) : ByteArray := cjTo ss ss.length
def keyed (ob : Bool) (k s : ByteArray) : ByteArray := if ob = true then ⟨#[34]⟩ ++ k ++ ⟨#[34, 58]⟩ ++ s else s
def endsA (h : Oh) : ByteArray := if h.k = 4 then ⟨#[123]⟩ else ⟨#[91]⟩
def endsB (h : Oh) : ByteArray := if h.k = 4 then ⟨#[125]⟩ else ⟨#[93]⟩
def valT (h : Oh) (ws : List ByteArray) : ByteArray :=
  if h.k = 0 then ⟨#[110, 117, 108, 108]⟩
  else if h.k = 1 then ⟨(Lib.itoa h.n).toArray⟩
  else if h.k = 2 then ⟨#[34]⟩ ++ h.t ++ ⟨#[34]⟩
  else endsA h ++ cj ws ++ endsB h
def wordsO : Bool → List ByteArray → Ous → List ByteArray
  | _, _, .nil => []
  | ob, ks, .cons h sub rest => keyed ob (ks.headD ⟨#[]⟩) (valT h (wordsO (h.k == 4) h.keys sub)) :: wordsO ob ks.tail rest
def outT (h : Oh) (sub : Ous) : ByteArray := valT h (wordsO (h.k == 4) h.keys sub)
/-- The bytes of texts and a comma each. -/
def sumW (ss : List ByteArray) : Nat := (ss.map fun s => s.size + 1).sum
theorem sumW_nil : sumW [] = 0 := rfl
theorem sumW_cons (s : ByteArray) (ss : List ByteArray) : sumW (s :: ss) = s.size + 1 + sumW ss := by simp [sumW]
theorem sumW_app (a b : List ByteArray) : sumW (a ++ b) = sumW a + sumW b := by simp [sumW, List.sum_append]
theorem mem_sumW {s : ByteArray} : ∀ {ss : List ByteArray}, s ∈ ss → s.size + 1 ≤ sumW ss
  | [], h => by cases h
  | x :: ss, h => by
    rw [sumW_cons]
    rcases List.mem_cons.1 h with rfl | h
    · omega
    · have := mem_sumW h; omega
theorem len_sumW : ∀ ss : List ByteArray, ss.length ≤ sumW ss
  | [] => Nat.zero_le _
  | x :: ss => by rw [sumW_cons, List.length_cons]; have := len_sumW ss; omega
theorem cjTo_size {ss : List ByteArray} : ∀ k, k ≤ ss.length → (cjTo ss k).size ≤ sumW (ss.take k)
  | 0, _ => Nat.le_refl _
  | k + 1, hk => by
    have ih := cjTo_size (ss := ss) k (by omega)
    have hg : ss.getD k ⟨#[]⟩ = ss[k] := by rw [List.getD_eq_getElem?_getD, List.getElem?_eq_getElem (by omega)]; rfl
    have h1 : (⟨#[44]⟩ : ByteArray).size = 1 := rfl
    rw [cjTo, hg, List.take_succ_eq_append_getElem (by omega), sumW_app, sumW_cons, sumW_nil]
    split
    · rw [ByteArray.size_append, ByteArray.size_append]; omega
    · rw [ByteArray.size_append]; omega
theorem cj_size (ss : List ByteArray) : (cj ss).size ≤ sumW ss := by
  have := cjTo_size (ss := ss) ss.length (Nat.le_refl _)
  rw [List.take_length] at this; exact this
theorem name_size {s : ByteArray} (h : nameB s = true) : s.size ≤ 40 := by
  simp only [nameB, Bool.and_eq_true, decide_eq_true_eq] at h; exact h.1.1.2
theorem itoa_size {n : Int} (h : intO n = true) : (⟨(Lib.itoa n).toArray⟩ : ByteArray).size ≤ 21 := by
  simp only [intO, decide_eq_true_eq] at h
  unfold Lib.itoa
  have e : ∀ l : List UInt8, (⟨l.toArray⟩ : ByteArray).size = l.length := fun l => by simp [ByteArray.size]
  rw [e]
  have := Lib.nDigits_le20 n.natAbs (by omega)
  rw [← Lib.decDigits_length] at this
  split
  · simp; omega
  · have h2 : n.natAbs = n.toNat := by omega
    rw [h2] at this; omega
theorem keys_size {ks : List ByteArray} (h : keysB ks = true) : ∀ k ∈ ks, k.size ≤ 40 := fun k hk => by
  obtain ⟨i, hi, rfl⟩ := List.getElem_of_mem hk
  have := keysB_at h hi
  rw [keyB_eq hi, Bool.and_eq_true] at this
  exact name_size this.1
theorem keyed_size (ob : Bool) (k s : ByteArray) : (keyed ob k s).size ≤ k.size + 3 + s.size := by
  have h1 : (⟨#[34]⟩ : ByteArray).size = 1 := rfl
  have h2 : (⟨#[34, 58]⟩ : ByteArray).size = 2 := rfl
  unfold keyed
  split
  · rw [ByteArray.size_append, ByteArray.size_append, ByteArray.size_append]; omega
  · omega
theorem endsA_size (h : Oh) : (endsA h).size = 1 := by unfold endsA; split <;> rfl
theorem endsB_size (h : Oh) : (endsB h).size = 1 := by unfold endsB; split <;> rfl
theorem valT_size {h : Oh} {sub : Ous} {ws : List ByteArray} (hh : headB h sub = true) : (valT h ws).size ≤ 42 + sumW ws := by
  have h1 : (⟨#[34]⟩ : ByteArray).size = 1 := rfl
  have h4 : (⟨#[110, 117, 108, 108]⟩ : ByteArray).size = 4 := rfl
  unfold valT
  unfold headB at hh
  by_cases k0 : h.k = 0
  · rw [if_pos k0]; omega
  rw [if_neg k0] at hh ⊢
  by_cases k1 : h.k = 1
  · rw [if_pos k1] at hh ⊢
    simp only [Bool.and_eq_true] at hh
    have := itoa_size hh.1.2
    omega
  rw [if_neg k1] at hh ⊢
  by_cases k2 : h.k = 2
  · rw [if_pos k2] at hh ⊢
    simp only [Bool.and_eq_true] at hh
    have := name_size hh.2
    rw [ByteArray.size_append, ByteArray.size_append]; omega
  · rw [if_neg k2]
    have := cj_size ws
    rw [ByteArray.size_append, ByteArray.size_append, endsA_size, endsB_size]; omega
theorem head_keys {h : Oh} {sub : Ous} (hh : headB h sub = true) (hk : (h.k == 4) = true) : ∀ k ∈ h.keys, k.size ≤ 40 := by
  have e : h.k = 4 := by simpa using hk
  have := head_group (h := h) (sub := sub) (by omega)
  rw [hh, e] at this
  simp at this
  exact keys_size this.2
theorem words_size : ∀ (l : Ous) (d : Nat) (ob : Bool) (ks : List ByteArray), okO d l = true → (ob = true → ∀ k ∈ ks, k.size ≤ 40) → sumW (wordsO ob ks l) ≤ 120 * l.size
  | .nil, d, ob, ks, _, _ => Nat.zero_le _
  | .cons h sub rest, d, ob, ks, hok, hks => by
    rw [okO_cons, Bool.and_eq_true] at hok
    obtain ⟨h1, h2⟩ := hok
    simp only [oneO, Bool.and_eq_true] at h1
    have ih1 := words_size sub (d - 1) (h.k == 4) h.keys h1.2 (fun e => head_keys h1.1.2 e)
    have ih2 := words_size rest d ob ks.tail h2 (fun e k hk => hks e k (List.mem_of_mem_tail hk))
    have hv := valT_size (ws := wordsO (h.k == 4) h.keys sub) h1.1.2
    rw [wordsO, sumW_cons]
    have hw : (keyed ob (ks.headD ⟨#[]⟩) (valT h (wordsO (h.k == 4) h.keys sub))).size ≤ 43 + (valT h (wordsO (h.k == 4) h.keys sub)).size := by
      cases ob
      · simp [keyed]
      · have hkz : (ks.headD ⟨#[]⟩).size ≤ 40 := by
          cases ks with
          | nil => exact Nat.zero_le _
          | cons x ks => exact hks rfl x (by simp)
        have := keyed_size true (ks.headD ⟨#[]⟩) (valT h (wordsO (h.k == 4) h.keys sub))
        omega
    simp only [Ous.size]
    omega
theorem outT_size {d : Nat} {h : Oh} {sub : Ous} (ho : outB d h sub = true) : (outT h sub).size ≤ 480042 := by
  obtain ⟨_, h1, h2, h3⟩ := outB_all ho
  have := valT_size (ws := wordsO (h.k == 4) h.keys sub) h1
  have := words_size sub (d - 1) (h.k == 4) h.keys h2 (fun e => head_keys h1 e)
  unfold outT
  omega
/-- A row of texts that may grow. -/
def kV (l : List ByteArray) : List Value := l.map Value.string
theorem kV_len (l : List ByteArray) : (kV l).length = l.length := by simp [kV]
theorem kV_row {w : World} {base : Nat} {v : Value} {l : List ByteArray} (h : w.ownsRow base 9 1 v l.length (kV l)) : ∃ a c, v = .slice a l.length c ∧ KeRow 0 w.heap.size w a l := by
  rcases h.2 with ⟨rfl, h0⟩ | ⟨g, cap, cur, rfl, h1, h2, h3, h4, h5, h6⟩
  · have : l = [] := List.eq_nil_of_length_eq_zero h0
    subst this
    exact ⟨none, 0, rfl, .inl rfl⟩
  · refine ⟨_, cap, rfl, .inr ⟨g, 0, rfl, Nat.zero_le _, (Array.getElem?_eq_some_iff.1 h2).1, fun i z hz => ?_⟩⟩
    have hi := (List.getElem?_eq_some_iff.1 hz).1
    rw [row_rd h2]
    show cur[0 + i * 1]? = _
    rw [Nat.mul_one, Nat.zero_add]
    have e : (kV l)[i]? = some (.string z) := by simp [kV, hz]
    rw [← h6, List.getElem?_take, if_pos (by omega)] at e
    simpa using e
end Go.Proofs.YtoaeggfnlenjkaaGreatDoor.G
