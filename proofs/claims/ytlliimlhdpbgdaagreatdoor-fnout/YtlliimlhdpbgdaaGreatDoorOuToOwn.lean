/- What the law copies of an answer's value is owned: each list in a block of its own. -/
import Derived.Test.YtlliimlhdpbgdaaGreatDoorOuOwnMath
import Derived.Test.YtlliimlhdpbgdaaGreatDoorGRegionFive
import Derived.Test.YtlliimlhdpbgdaaGreatDoorOuOwn
namespace Go.Proofs.YtlliimlhdpbgdaaGreatDoor.G
open Go.ChangeShapes Go.WideShapes Go.ChangeAt Go.RowKit
set_option linter.unusedVariables false

def dstO (i : Nat) : Nat := if i = 12 then 3 else i + 5
theorem dstO_inj (i j : Nat) (hi : i < 13) (hj : j < 13) (h : dstO i = dstO j) : i = j := by
  unfold dstO at h
  split at h <;> split at h <;> omega
/-- What the first region's operations tell. -/
def OsPv (w : World) (N0 : Nat) (h : Oh) (sub : Ous) (a1 a2 : Option Addr) (c1 c2 : Nat) : Nat → Value → World → Prop
  | 0, v, _ => v = .pointer (some ⟨w.heap.size, 0, none⟩)
  | 1, v, _ => v = .int .i64 h.k
  | 2, v, _ => v = .pointer (some ⟨w.heap.size, 1, none⟩)
  | 3, v, _ => v = .int .i64 h.n
  | 4, v, _ => v = .pointer (some ⟨w.heap.size, 2, none⟩)
  | 5, v, _ => v = .string h.t
  | 6, v, _ => ∃ g, v = .slice g 0 0
  | 7, v, _ => v = .pointer (some ⟨w.heap.size, 3, none⟩)
  | 8, v, _ => v = .slice a1 h.keys.length c1
  | 9, v, W => ∃ b d, v = .slice b h.keys.length d ∧ h.keys.length ≤ d ∧ KeOwn N0 W.heap.size W b h.keys
  | 10, v, W => ∃ g, v = .slice (some ⟨g, 0, none⟩) 0 0 ∧ N0 ≤ g ∧ W.heap[g]? = some (.cells #[] 26 (0, 0))
  | 11, v, W => ∃ b d g, v = .agg #[.int .i64 h.k, .int .i64 h.n, .string h.t, .slice b h.keys.length d, .slice (some ⟨g, 0, none⟩) 0 0] ∧ h.keys.length ≤ d ∧ KeOwn N0 W.heap.size W b h.keys ∧ N0 ≤ g ∧ W.heap[g]? = some (.cells #[] 26 (0, 0))
  | 12, v, W => ∃ B, v = .pointer (some ⟨B, 0, none⟩) ∧ N0 ≤ B ∧ W.heap[B]? = some (.cells #[.int .i64 0, .int .i64 0, .string ⟨#[]⟩, .slice none 0 0, .slice none 0 0] 26 (0, 0))
  | _, _, _ => True
theorem OsPv.up {w : World} {N0 : Nat} {h : Oh} {sub : Ous} {a1 a2 : Option Addr} {c1 c2 : Nat} (i : Nat) (v : Value) (W W' : World) (H : OsPv w N0 h sub a1 a2 c1 c2 i v W) (hb : Below W.heap.size W W') : OsPv w N0 h sub a1 a2 c1 c2 i v W' := by
  have bl : ∀ {g : Nat} {o : Obj}, W.heap[g]? = some o → W'.heap[g]? = some o := fun hg => (hb.block _ (Array.getElem?_eq_some_iff.1 hg).1).trans hg
  unfold OsPv at H ⊢
  split at H
  case h_10 => obtain ⟨b, d, e1, e2, e3⟩ := H; exact ⟨b, d, e1, e2, (e3.keep (agree hb (Nat.le_refl _))).wide (Nat.le_refl _) hb.size⟩
  case h_11 => obtain ⟨g, e1, e2, e3⟩ := H; exact ⟨g, e1, e2, bl e3⟩
  case h_12 => obtain ⟨b, d, g, e1, e2, e3, e4, e5⟩ := H; exact ⟨b, d, g, e1, e2, (e3.keep (agree hb (Nat.le_refl _))).wide (Nat.le_refl _) hb.size, e4, bl e5⟩
  case h_13 => obtain ⟨B, e1, e2, e3⟩ := H; exact ⟨B, e1, e2, bl e3⟩
  all_goals exact H
/-- What the second region's operations tell. -/
def OtPv (B S N k : Nat) (v : Value) (A pk : Value) (h : Oh) (sub : Ous) (a1 a2 : Option Addr) (c1 c2 : Nat) : Nat → Value → World → Prop
  | 0, y, _ => y = .pointer (some ⟨B, 4, none⟩)
  | 1, y, _ => y = v
  | 2, y, _ => y = .pointer (some ⟨S, 4, none⟩)
  | 3, y, _ => y = A
  | 4, y, _ => y = .int .i64 k
  | 5, y, _ => y = pk
  | 6, y, _ => y = .agg #[.int .i64 h.k, .int .i64 h.n, .string h.t, .slice a1 h.keys.length c1, .slice a2 sub.len c2]
  | 7, y, W => ∃ b1 d1 b2 d2, y = .agg #[.int .i64 h.k, .int .i64 h.n, .string h.t, .slice b1 h.keys.length d1, .slice b2 sub.len d2] ∧ h.keys.length ≤ d1 ∧ KeRow N W.heap.size W b1 h.keys ∧ OuRow N W.heap.size W b2 sub
  | 8, y, W => ∃ g b1 d1 b2 d2, y = .slice (some ⟨g, 0, none⟩) 1 1 ∧ N ≤ g ∧ W.heap[g]? = some (.cells #[.int .i64 h.k, .int .i64 h.n, .string h.t, .slice b1 h.keys.length d1, .slice b2 sub.len d2] 26 (0, 0)) ∧ h.keys.length ≤ d1 ∧ KeRow N W.heap.size W b1 h.keys ∧ OuRow N W.heap.size W b2 sub
  | 9, _, _ => True
  | 10, y, _ => y = .pointer (some ⟨B, 4, none⟩)
  | _, _, _ => True
theorem OtPv.up {B S N k : Nat} {v : Value} {A pk : Value} {h : Oh} {sub : Ous} {a1 a2 : Option Addr} {c1 c2 : Nat} {W W' : World} (hs : W.heap.size ≤ W'.heap.size) (hk : ∀ g, N ≤ g → g < W.heap.size → W'.heap[g]? = W.heap[g]?) {i : Nat} {y : Value} (H : OtPv B S N k v A pk h sub a1 a2 c1 c2 i y W) : OtPv B S N k v A pk h sub a1 a2 c1 c2 i y W' := by
  unfold OtPv at H ⊢
  split at H
  case h_8 => obtain ⟨b1, d1, b2, d2, e1, e2, e3, e4⟩ := H; exact ⟨b1, d1, b2, d2, e1, e2, KeRow.wide (KeRow.keep e3 hk) (Nat.le_refl _) hs, OuRow.wide (OuRow.keep e4 hk) (Nat.le_refl _) hs⟩
  case h_9 => obtain ⟨g, b1, d1, b2, d2, e1, e2, e3, e4, e5, e6⟩ := H; exact ⟨g, b1, d1, b2, d2, e1, e2, (hk g e2 (Array.getElem?_eq_some_iff.1 e3).1).trans e3, e4, KeRow.wide (KeRow.keep e5 hk) (Nat.le_refl _) hs, OuRow.wide (OuRow.keep e6 hk) (Nat.le_refl _) hs⟩
  all_goals exact H
theorem five_one {k n : Int} {t : ByteArray} {b1 b2 : Option Addr} {n1 n2 f1 f2 : Nat} : ∀ u ∈ ([.int .i64 k, .int .i64 n, .string t, .slice b1 n1 f1, .slice b2 n2 f2] : List Value), u.oneCell' = true := by
  intro u hu
  simp only [List.mem_cons, List.not_mem_nil, or_false] at hu
  rcases hu with rfl | rfl | rfl | rfl | rfl <;> rfl
end Go.Proofs.YtlliimlhdpbgdaaGreatDoor.G
namespace Go.Proofs.YtlliimlhdpbgdaaGreatDoor.G
open Go.ChangeShapes Go.WideShapes Go.ChangeAt Go.RowKit
set_option linter.unusedVariables false

def put3 (cs : Array Value) (k : Nat) (v0 v1 v2 : Value) : Array Value := ((cs.setIfInBounds k v0).setIfInBounds (k + 1) v1).setIfInBounds (k + 2) v2
theorem put3_at {cs : Array Value} {k : Nat} {v0 v1 v2 : Value} (h : k + 2 < cs.size) : (put3 cs k v0 v1 v2)[k]? = some v0 ∧ (put3 cs k v0 v1 v2)[k + 1]? = some v1 ∧ (put3 cs k v0 v1 v2)[k + 2]? = some v2 := by
  unfold put3
  refine ⟨?_, ?_, ?_⟩ <;> simp [Array.getElem?_setIfInBounds] <;> omega
theorem put3_ne {cs : Array Value} {k : Nat} {v0 v1 v2 : Value} {j : Nat} (h : j < k ∨ k + 3 ≤ j) : (put3 cs k v0 v1 v2)[j]? = cs[j]? := by
  unfold put3
  rw [Array.getElem?_setIfInBounds_ne (by omega), Array.getElem?_setIfInBounds_ne (by omega), Array.getElem?_setIfInBounds_ne (by omega)]
theorem OuSeq.mark_step {w0 w5 : World} {b m m1 m3 hi n q K : Nat} {cs : Array Value} {pre : List (Oh × Ous)} {h : Oh} {sub rest : Ous} {a3 a5 : Option Addr} {d3 d5 : Nat} {v0 v1 v2 : Value}
    (hlen : pre.length = n) (hcs : n * 5 + 5 ≤ cs.size) (HP : OuSeq w0 (appO (mkPo K pre) .nil) cs 0 (b + 1) m) (HR : OuSeq w0 rest cs (n * 5 + 5) m3 hi) (e1 : m ≤ m1) (e2 : m1 ≤ m3)
    (p3 : cs[n * 5 + 3]? = some (.slice a3 h.keys.length d3)) (pc : h.keys.length ≤ d3) (p5 : cs[n * 5 + 4]? = some (.slice a5 sub.len d5))
    (o3 : KeOwn m m1 w5 a3 (mkKe (q + 3) h.keys)) (o5 : OuOwn m1 m3 w5 a5 (mkO (q + cOh h) sub))
    (S : ∀ g, b < g → g < hi → (g < m ∨ m3 ≤ g) → w5.heap[g]? = w0.heap[g]?) (ev0 : v0 = .int .i64 (q : Int)) (ev1 : v1 = .int .i64 ((q + 1 : Nat) : Int)) (ev2 : v2 = .string (mkT (q + 2))) (hq : q = K + cPo pre) :
    OuSeq w5 (appO (mkPo K (pre ++ [(h, sub)])) .nil) (put3 cs (n * 5) v0 v1 v2) 0 (b + 1) m3 ∧ OuSeq w5 rest (put3 cs (n * 5) v0 v1 v2) ((n + 1) * 5) m3 hi := by
  have hm := HP.le
  have hr := HR.le
  subst hlen
  obtain ⟨g0, g1, g2⟩ := put3_at (cs := cs) (k := pre.length * 5) (v0 := v0) (v1 := v1) (v2 := v2) (by omega)
  have gx : ∀ j, j < pre.length * 5 ∨ pre.length * 5 + 3 ≤ j → (put3 cs (pre.length * 5) v0 v1 v2)[j]? = cs[j]? := fun j hj => put3_ne hj
  generalize put3 cs (pre.length * 5) v0 v1 v2 = cs' at *
  constructor
  · rw [mkPo_snoc, ← hq]
    refine OuSeq.snoc _ (OuSeq.cells (cs := cs) (OuSeq.keep HP fun g h1 h2 => S g (by omega) (by omega) (.inl h2)) fun j _ hj => gx j ?_) ?_
    · rw [appO_len, mkPo_len] at hj
      simp only [Ous.len] at hj
      omega
    · rw [mkPo_len, show 0 + 5 * pre.length = pre.length * 5 by omega]
      refine ⟨m1, e1, e2, g0.trans (by rw [ev0]; rfl), g1.trans (by rw [ev1]; rfl), g2.trans (by rw [ev2]; rfl), ⟨a3, d3, ?_, ?_, o3⟩, ⟨a5, d5, ?_, o5⟩⟩
      · rw [gx _ (by omega), p3]; simp only [mkOh, mkKe_len]
      · simp only [mkOh, mkKe_len]; exact pc
      · rw [gx _ (by omega), p5, mkO_len]
  · rw [show (pre.length + 1) * 5 = pre.length * 5 + 5 by omega]
    exact OuSeq.cells (cs := cs) (OuSeq.keep HR fun g h1 h2 => S g (by omega) h2 (.inr h1)) fun j h1 _ => gx j (by omega)

/-- A value's lists, owned, one behind the other. -/
def PartsO (lo hi : Nat) (w : World) (b1 b2 : Option Addr) (h : Oh) (sub : Ous) : Prop := ∃ m1, lo ≤ m1 ∧ m1 ≤ hi ∧ KeOwn lo m1 w b1 h.keys ∧ OuOwn m1 hi w b2 sub
theorem PartsO.keep {lo hi : Nat} {w w' : World} {b1 b2 : Option Addr} {h : Oh} {sub : Ous} (H : PartsO lo hi w b1 b2 h sub) (hk : Agree lo hi w w') : PartsO lo hi w' b1 b2 h sub := by
  obtain ⟨m1, e1, e2, p1, p2⟩ := H
  exact ⟨m1, e1, e2, p1.keep fun g h1 h2 => hk g (by omega) (by omega), p2.keep fun g h1 h2 => hk g (by omega) (by omega)⟩
theorem PartsO.wide {lo hi lo' hi' : Nat} {w : World} {b1 b2 : Option Addr} {h : Oh} {sub : Ous} (H : PartsO lo hi w b1 b2 h sub) (e1 : lo' ≤ lo) (e2 : hi ≤ hi') : PartsO lo' hi' w b1 b2 h sub := by
  obtain ⟨m1, f1, f2, p1, p2⟩ := H
  exact ⟨m1, by omega, by omega, p1.wide e1 (Nat.le_refl _), p2.wide (Nat.le_refl _) e2⟩
theorem PartsO.rows {lo hi : Nat} {w : World} {b1 b2 : Option Addr} {h : Oh} {sub : Ous} (H : PartsO lo hi w b1 b2 h sub) : KeRow lo hi w b1 h.keys ∧ OuRow lo hi w b2 sub := by
  obtain ⟨m1, f1, f2, p1, p2⟩ := H
  exact ⟨ke_row (p1.wide (Nat.le_refl _) f2), (p2.wide f1 (Nat.le_refl _)).row⟩
/-- What marks leave of a value: its lists' marks. -/
def mkTop (K : Nat) (h : Oh) : Oh := ⟨h.k, h.n, h.t, mkKe K h.keys⟩
end Go.Proofs.YtlliimlhdpbgdaaGreatDoor.G
namespace Go.Proofs.YtlliimlhdpbgdaaGreatDoor.G
open Go.ChangeShapes Go.WideShapes Go.ChangeAt Go.RowKit
set_option linter.unusedVariables false

theorem put5_ne {cs : Array Value} {k : Nat} {v0 v1 v2 v3 v4 : Value} {j : Nat} (h : j < k ∨ k + 5 ≤ j) : (put5 cs k v0 v1 v2 v3 v4)[j]? = cs[j]? := by
  unfold put5
  rw [Array.getElem?_setIfInBounds_ne (by omega), Array.getElem?_setIfInBounds_ne (by omega), Array.getElem?_setIfInBounds_ne (by omega), Array.getElem?_setIfInBounds_ne (by omega), Array.getElem?_setIfInBounds_ne (by omega)]
theorem OuSeq.lay {w0 W' : World} {k lo m hi : Nat} {cs : Array Value} {pre : List (Oh × Ous)} {h : Oh} {sub : Ous} {b1 b2 : Option Addr} {f1 f2 : Nat} (hf : h.keys.length ≤ f1) (hlen : pre.length = k) (hcs : k * 5 + 5 ≤ cs.size) (HL : OuSeq w0 (appO pre .nil) cs 0 lo m) (ha : Agree lo m w0 W') (HP : PartsO m hi W' b1 b2 h sub) :
    OuSeq W' (appO (pre ++ [(h, sub)]) .nil) (put5 cs (k * 5) (.int .i64 h.k) (.int .i64 h.n) (.string h.t) (.slice b1 h.keys.length f1) (.slice b2 sub.len f2)) 0 lo hi := by
  subst hlen
  obtain ⟨g0, g1, g2, g3, g4⟩ := put5_at (cs := cs) (k := pre.length * 5) (v0 := .int .i64 h.k) (v1 := .int .i64 h.n) (v2 := .string h.t) (v3 := .slice b1 h.keys.length f1) (v4 := .slice b2 sub.len f2) (by omega)
  obtain ⟨m1, e1, e2, p1, p2⟩ := HP
  refine OuSeq.snoc pre (OuSeq.cells (cs := cs) (OuSeq.keep HL ha) fun j _ hj => put5_ne ?_) ?_
  · rw [appO_len] at hj
    simp only [Ous.len] at hj
    omega
  · rw [show 0 + 5 * pre.length = pre.length * 5 by omega]
    exact ⟨m1, e1, e2, g0, g1, g2, ⟨b1, f1, g3, hf, p1⟩, ⟨b2, f2, g4, p2⟩⟩
end Go.Proofs.YtlliimlhdpbgdaaGreatDoor.G
