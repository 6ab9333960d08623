/- A drawn list or object of answers' values: what it is in plain terms, and its two drawing regions in whatever order: what stays. -/
import Derived.Test.YtoaeggfnlenjkaaGreatDoorOuOwn
import Derived.Test.YtoaeggfnlenjkaaGreatDoorOuOwnMath
namespace Go.Proofs.YtoaeggfnlenjkaaGreatDoor.G
open Go.ChangeShapes Go.WideShapes Go.ChangeAt Go.RowKit
set_option linter.unusedVariables false

def allD (d : Nat) (pre : List (Oh × Ous)) : Prop := ∀ x ∈ pre, DrawnB d x.1 x.2
theorem allD_ok {d : Nat} : ∀ {pre : List (Oh × Ous)}, allD d pre → okO (d + 1) (appO pre .nil) = true
  | [], _ => rfl
  | x :: l, h => by
    show okO (d + 1) (.cons x.1 x.2 (appO l .nil)) = true
    rw [okO_cons, (h x (by simp)).1, allD_ok (pre := l) (fun y hy => h y (by simp [hy]))]
    rfl
theorem allD_size {d : Nat} : ∀ {pre : List (Oh × Ous)}, allD d pre → (appO pre .nil).size ≤ pre.length * (1 + roomD d)
  | [], _ => by simp [appO, Ous.size]
  | x :: l, h => by
    have h1 := (h x (by simp)).2
    have h2 := allD_size (d := d) (pre := l) (fun y hy => h y (by simp [hy]))
    simp only [appO, Ous.size, List.length_cons, Nat.succ_mul]
    omega
def keyAtD : Nat → ByteArray
  | 0 => lB
  | 1 => lA
  | _ => lC
/-- The names drawn ahead of the place i. -/
def KinB (i : Nat) (ks : List ByteArray) : Prop := ∃ b0 b1 b2 : Bool, ks = drawnK (decide (0 < i) && b0) (decide (1 < i) && b1) (decide (2 < i) && b2)
theorem KinB.start : KinB 0 [] := ⟨false, false, false, rfl⟩
theorem KinB.skip {i : Nat} {ks : List ByteArray} (h : KinB i ks) : KinB (i + 1) ks := by
  obtain ⟨b0, b1, b2, rfl⟩ := h
  have e : ∀ (j : Nat) (b : Bool), (decide (j < i + 1) && (decide (j < i) && b)) = (decide (j < i) && b) := fun j b => by
    by_cases hj : j < i
    · simp [hj, show j < i + 1 by omega]
    · simp [hj]
  exact ⟨decide (0 < i) && b0, decide (1 < i) && b1, decide (2 < i) && b2, by rw [e, e, e]⟩
theorem KinB.put {i : Nat} {ks : List ByteArray} (hi : i < 3) (h : KinB i ks) : KinB (i + 1) (ks ++ [keyAtD i]) := by
  obtain ⟨b0, b1, b2, rfl⟩ := h
  match i, hi with
  | 0, _ => exact ⟨true, false, false, rfl⟩
  | 1, _ => exact ⟨b0, true, false, by cases b0 <;> rfl⟩
  | 2, _ => exact ⟨b0, b1, true, by cases b0 <;> cases b1 <;> rfl⟩
/-- What has been drawn of a list (3) or an object (4) ahead of the place i. -/
def KindIn (kd : Int) (i : Nat) (ks : List ByteArray) (pre : List (Oh × Ous)) : Prop :=
  pre.length ≤ i ∧ ((kd = 3 ∧ ks = []) ∨ (kd = 4 ∧ KinB i ks ∧ ks.length = pre.length))
theorem kind_drawn {kd : Int} {d : Nat} {ks : List ByteArray} {pre : List (Oh × Ous)} (h : KindIn kd 3 ks pre) (hd : allD d pre) : DrawnB (d + 1) ⟨kd, 0, ⟨#[]⟩, ks⟩ (appO pre .nil) := by
  refine drawn_group ?_ (allD_ok hd) ?_
  · obtain ⟨_, ⟨rfl, rfl⟩ | ⟨rfl, ⟨b0, b1, b2, rfl⟩, hl⟩⟩ := h
    · simp [headB, noT, ByteArray.toList_eq]
    · have hk := drawnK_ok (decide (0 < 3) && b0) (decide (1 < 3) && b1) (decide (2 < 3) && b2)
      unfold headB
      simp only
      rw [if_neg (by omega), if_neg (by omega), if_neg (by omega), if_neg (by omega), if_pos trivial, hk, hl, appO_len]
      simp [noT, ByteArray.toList_eq, Ous.len]
  · have h1 := allD_size hd
    have h2 : pre.length * (1 + roomD d) ≤ 3 * (1 + roomD d) := Nat.mul_le_mul_right _ h.1
    show _ ≤ 3 * (1 + roomD d)
    omega

/-- The items' own lists: they stay in whatever world that agrees but for two blocks. -/
def KidsT (lo : Nat) (r1 r2 : Option Nat) (w : World) (pre : List (Oh × Ous)) (vs : List Value) : Prop := ∀ W' : World, w.heap.size ≤ W'.heap.size → (∀ k, lo ≤ k → k < w.heap.size → some k ≠ r1 → some k ≠ r2 → W'.heap[k]? = w.heap[k]?) → OuPre lo W'.heap.size W' (appO pre .nil) (fun j => vs[j]?) 0 pre.length
theorem KidsT.one {lo : Nat} {r1 r2 : Option Nat} {w : World} {pre : List (Oh × Ous)} {vs : List Value} (h : KidsT lo r1 r2 w pre vs) : KidsO lo r1 w pre vs := fun W' hW => h W' hW.1 (fun k a1 a2 a3 _ => hW.2 k a1 a2 a3)
theorem KidsT.step {lo : Nat} {r1 r2 r1' r2' : Option Nat} {w w1 : World} {pre : List (Oh × Ous)} {vs : List Value} (h : KidsT lo r1 r2 w pre vs) (hs : w.heap.size ≤ w1.heap.size) (hk : ∀ k, lo ≤ k → k < w.heap.size → some k ≠ r1 → some k ≠ r2 → w1.heap[k]? = w.heap[k]? ∧ some k ≠ r1' ∧ some k ≠ r2') : KidsT lo r1' r2' w1 pre vs := fun W' hz hW =>
  h W' (Nat.le_trans hs hz) (fun k a1 a2 a3 a4 => (hW k a1 (by omega) (hk k a1 a2 a3 a4).2.1 (hk k a1 a2 a3 a4).2.2).trans (hk k a1 a2 a3 a4).1)
theorem KidsT.more {lo m : Nat} {r1 r2 : Option Nat} {w : World} {pre : List (Oh × Ous)} {vs : List Value} {h : Oh} {sub : Ous} {b1 b2 : Option Addr} {f1 f2 : Nat} (H : KidsT lo r1 r2 w pre vs) (hlen : vs.length = pre.length * 5) (hlo : lo ≤ m) (hf : h.keys.length ≤ f1) (hr1 : ∀ g, r1 = some g → g < m ∨ w.heap.size ≤ g) (hr2 : ∀ g, r2 = some g → g < m ∨ w.heap.size ≤ g)
    (A1 : KeRow m w.heap.size w b1 h.keys) (A2 : OuRow m w.heap.size w b2 sub) :
    KidsT lo r1 r2 w (pre ++ [(h, sub)]) (vs ++ [.int .i64 h.k, .int .i64 h.n, .string h.t, .slice b1 h.keys.length f1, .slice b2 sub.len f2]) := by
  intro W' hz hW
  have hA : Agree m w.heap.size w W' := fun g h1 h2 => hW g (by omega) h2 (fun e => by have := hr1 g e.symm; omega) (fun e => by have := hr2 g e.symm; omega)
  have P1 := OuPre.cells (rd' := fun j => (vs ++ [.int .i64 h.k, .int .i64 h.n, .string h.t, .slice b1 h.keys.length f1, .slice b2 sub.len f2])[j]?) (H W' hz hW) (fun j _ hj => by
    rw [List.getElem?_append_left (by omega)])
  have q : ∀ j, (vs ++ [.int .i64 h.k, .int .i64 h.n, .string h.t, .slice b1 h.keys.length f1, .slice b2 sub.len f2])[0 + 5 * pre.length + j]? = ([.int .i64 h.k, .int .i64 h.n, .string h.t, .slice b1 h.keys.length f1, .slice b2 sub.len f2] : List Value)[j]? := fun j => by
    rw [List.getElem?_append_right (by omega)]
    congr 1; omega
  have R1 : KeRow lo W'.heap.size W' b1 h.keys := KeRow.wide (KeRow.keep A1 hA) hlo hz
  have R2 : OuRow lo W'.heap.size W' b2 sub := OuRow.wide (OuRow.keep A2 hA) hlo hz
  have := OuPre.snoc (h := h) (sub := sub) pre _ 0 P1 ⟨q 0, q 1, q 2, b1, f1, q 3, hf, R1⟩ ⟨b2, f2, q 4, R2⟩
  simpa using this
abbrev ouZ : Obj := .cells #[.int .i64 0, .int .i64 0, .string ⟨#[]⟩, .slice none 0 0, .slice none 0 0] 26 (0, 0)
/-- Where the drawing of a list or an object stands: the answer's block R, the value's B, the source L. -/
structure OuIn (w : World) (L R B N0 : Nat) (sa : Option Addr) (n kk : Nat) (kd : Int) (ks : List ByteArray) (kv v : Value) (vs : List Value) (pre : List (Oh × Ous)) (W : World) : Prop where
  grown : w.grownBy W (some L)
  res : W.heap[R]? = some ouZ
  src : SrcSt W L sa n kk
  cell : W.heap[B]? = some (.cells #[.int .i64 kd, .int .i64 0, .string ⟨#[]⟩, kv, v] 26 (0, 0))
  keys : W.ownsRow N0 9 1 kv ks.length (kV ks)
  own : W.ownsRow N0 26 5 v pre.length vs
  kids : KidsT N0 v.ownBlock kv.ownBlock W pre vs
section
variable {w W W' : World} {L R B N0 N : Nat} {sa : Option Addr} {n kk kk' : Nat} {kd : Int} {ks : List ByteArray} {kv v : Value} {vs : List Value} {pre : List (Oh × Ous)} {D : Array Bool} {u : Nat → Value} {z : ByteArray}
theorem OuIn.move (h : OuIn w L R B N0 sa n kk kd ks kv v vs pre W) (hp : w.heap.size ≤ R ∧ L < w.heap.size ∧ R < B ∧ B < N0) (hg : W.grownBy W' (some L)) (hs : SrcSt W' L sa n kk') : OuIn w L R B N0 sa n kk' kd ks kv v vs pre W' := by
  have blk : ∀ g, g < W.heap.size → g ≠ L → W'.heap[g]? = W.heap[g]? := fun g h1 h2 => hg.block g h1 (by simpa using h2)
  obtain ⟨h1, h2, h3, h4, h5, h6, h7⟩ := h
  refine ⟨grown_trans h1 hg, (blk R (Array.getElem?_eq_some_iff.1 h2).1 (by omega)).trans h2, hs, (blk B (Array.getElem?_eq_some_iff.1 h4).1 (by omega)).trans h4, own_setO h5 (fun g hg2 => ?_), own_setO h6 (fun g hg2 => ?_), h7.step hg.size (fun k a1 a2 a3 a4 => ⟨blk k a2 (by omega), a3, a4⟩)⟩
  · have := own_ltO h5 g hg2
    exact blk g this.2.1 (by omega)
  · have := own_ltO h6 g hg2
    exact blk g this.2.1 (by omega)
theorem OuIn.below (h : OuIn w L R B N0 sa n kk kd ks kv v vs pre W) (hb : Below W.heap.size W W') : OuIn w L R B N0 sa n kk kd ks kv v vs pre W' :=
  ⟨grown_belowO h.grown hb, (hb.block R (Array.getElem?_eq_some_iff.1 h.res).1).trans h.res, h.src.move (hb.block L h.src.lt), (hb.block B (Array.getElem?_eq_some_iff.1 h.cell).1).trans h.cell, own_belowO h.keys hb, own_belowO h.own hb, h.kids.step hb.size (fun k a1 a2 a3 a4 => ⟨hb.block k a2, a3, a4⟩)⟩
/-- What is left of it behind the append to the names, ahead of the store. -/
structure OuMidK (w : World) (L R B N0 : Nat) (sa : Option Addr) (n kk : Nat) (kd : Int) (ks : List ByteArray) (kv kv' v : Value) (vs : List Value) (pre : List (Oh × Ous)) (W : World) : Prop where
  grown : w.grownBy W (some L)
  res : W.heap[R]? = some ouZ
  src : SrcSt W L sa n kk
  cell : W.heap[B]? = some (.cells #[.int .i64 kd, .int .i64 0, .string ⟨#[]⟩, kv, v] 26 (0, 0))
  keys : W.ownsRow N0 9 1 kv' ks.length (kV ks)
  own : W.ownsRow N0 26 5 v pre.length vs
  kids : KidsT N0 v.ownBlock kv'.ownBlock W pre vs
theorem OuMidK.below {kv' : Value} (h : OuMidK w L R B N0 sa n kk kd ks kv kv' v vs pre W) (hb : Below W.heap.size W W') : OuMidK w L R B N0 sa n kk kd ks kv kv' v vs pre W' :=
  ⟨grown_belowO h.grown hb, (hb.block R (Array.getElem?_eq_some_iff.1 h.res).1).trans h.res, h.src.move (hb.block L h.src.lt), (hb.block B (Array.getElem?_eq_some_iff.1 h.cell).1).trans h.cell, own_belowO h.keys hb, own_belowO h.own hb, h.kids.step hb.size (fun k a1 a2 a3 a4 => ⟨hb.block k a2, a3, a4⟩)⟩
theorem OuMidK.store {kv' : Value} (h : OuMidK w L R B N0 sa n kk kd ks kv kv' v vs pre W) (hp : w.heap.size ≤ R ∧ L < w.heap.size ∧ R < B ∧ B < N0) : OuIn w L R B N0 sa n kk kd ks kv' v vs pre (W.setCell ⟨B, 3, none⟩ kv') := by
  have blk : ∀ g, g ≠ B → (W.setCell ⟨B, 3, none⟩ kv').heap[g]? = W.heap[g]? := fun g hg => heap_set _ _ _ _ _ hg
  obtain ⟨h1, h2, h3, h4, h5, h6, h7⟩ := h
  refine ⟨grown_farO h1 (by omega) _ _, (blk R (by omega)).trans h2, h3.move (blk L (by omega)), ?_, own_setO h5 (fun g hg => blk g (by have := own_ltO h5 g hg; omega)), own_setO h6 (fun g hg => blk g (by have := own_ltO h6 g hg; omega)), h7.step (by simp) (fun k a1 a2 a3 a4 => ⟨blk k (by omega), a3, a4⟩)⟩
  have := row_set h4 3 kv'
  simpa using this
/-- The region 'o.Keys = append(o.Keys, []string{"b", "a", "c"}[i])': 7 appends. -/
structure KyJ (w : World) (L R B N0 : Nat) (sa : Option Addr) (n kk : Nat) (kd : Int) (ks : List ByteArray) (z : ByteArray) (kv v : Value) (vs : List Value) (pre : List (Oh × Ous)) (N : Nat) (D : Array Bool) (u : Nat → Value) (W : World) : Prop where
  size : N ≤ W.heap.size
  ahead : D.getD 7 false = false → OuIn w L R B N0 sa n kk kd ks kv v vs pre W ∧ ∀ g, kv.ownBlock = some g → g < N
  behind : D.getD 7 false = true → (∃ (a : Option Addr) (c : Nat), u 47 = .slice a (ks.length + 1) c) ∧ OuMidK w L R B N0 sa n kk kd (ks ++ [z]) kv (u 47) v vs pre W
theorem KyJ.start {m : Nat} (h : OuIn w L R B N0 sa n kk kd ks kv v vs pre W) : KyJ w L R B N0 sa n kk kd ks z kv v vs pre W.heap.size (Array.replicate m false) u W.drew := by
  refine ⟨Nat.le_refl _, fun _ => ⟨h.below (Below.refl _ _).drew, fun g hg => (own_ltO h.keys g hg).2.1⟩, fun h => ?_⟩
  exfalso
  by_cases hx : 7 < m
  · simp [hx] at h
  · simp [hx] at h
theorem KyJ.step (h : KyJ w L R B N0 sa n kk kd ks z kv v vs pre N D u W) (hb : Below W.heap.size W W') {i d : Nat} {val : Value} (hi : i ≠ 7) (hd : d ≠ 47) : KyJ w L R B N0 sa n kk kd ks z kv v vs pre N (D.setIfInBounds i true) (upd u d val) W' := by
  have e : (D.setIfInBounds i true).getD 7 false = D.getD 7 false := getD_set_ne false hi
  have f : upd u d val 47 = u 47 := upd_ne _ _ (Ne.symm hd)
  obtain ⟨h0, h1, h2⟩ := h
  refine ⟨Nat.le_trans h0 hb.size, by rw [e]; exact fun q => ⟨(h1 q).1.below hb, (h1 q).2⟩, ?_⟩
  rw [e, f]
  exact fun q => ⟨(h2 q).1, (h2 q).2.below hb⟩
theorem KyJ.put (h : KyJ w L R B N0 sa n kk kd ks z kv v vs pre N D u W) (hp : w.heap.size ≤ R ∧ L < w.heap.size ∧ R < B ∧ B < N0) (hs : 7 < D.size) (h7 : D.getD 7 false = false) (hg : W.grownBy W' kv.ownBlock) {g cap : Nat} (ho : W'.ownsRow N0 9 1 (.slice (some ⟨g, 0, none⟩) (ks.length + 1) cap) (ks.length + 1) (kV (ks ++ [z]))) (hat : kv.ownBlock = some g ∨ g = W.heap.size) : KyJ w L R B N0 sa n kk kd ks z kv v vs pre N (D.setIfInBounds 7 true) (upd u 47 (.slice (some ⟨g, 0, none⟩) (ks.length + 1) cap)) W' := by
  obtain ⟨⟨h1, h2, h3, h4, h5, h6, h7'⟩, _⟩ := h.ahead h7
  have nb : ∀ (b : Nat) (cs : Array Value) (T : TypeId), W.heap[b]? = some (.cells cs T (0, 0)) → T ≠ 9 → W'.heap[b]? = W.heap[b]? := fun b cs T hb hT => hg.block b (Array.getElem?_eq_some_iff.1 hb).1 (fun e => by
    obtain ⟨_, _, cs', hcs⟩ := own_ltO h5 b e.symm
    rw [hcs] at hb
    simp only [Option.some.injEq, Obj.cells.injEq] at hb
    exact hT hb.2.1.symm)
  have old : ∀ b, b < W.heap.size → b < N0 → W'.heap[b]? = W.heap[b]? := fun b hb hb0 => hg.block b hb (fun e => by have := own_ltO h5 b e.symm; omega)
  refine ⟨Nat.le_trans h.size hg.size, fun e => by simp [hs] at e, fun _ => ⟨⟨_, _, upd_at _ _ _⟩, ?_, (nb R _ _ h2 (by decide)).trans h2, h3.move (old L h3.lt (by omega)), (nb B _ _ h4 (by decide)).trans h4, by rw [upd_at]; simpa using ho, own_setO h6 (fun g hg2 => ?_), ?_⟩⟩
  · exact ⟨hg.os.trans h1.os, hg.tape.trans h1.tape, hg.output.trans h1.output, Nat.le_trans h1.size hg.size, fun k hk hn => (old k (Nat.lt_of_lt_of_le hk h1.size) (by omega)).trans (h1.block k hk hn)⟩
  · obtain ⟨_, _, cs', hcs⟩ := own_ltO h6 g hg2
    exact nb g _ _ hcs (by decide)
  · rw [upd_at]
    refine h7'.step hg.size (fun k a1 a2 a3 a4 => ⟨hg.block k a2 a4, a3, ?_⟩)
    simp only [Value.ownBlock, ne_eq, Option.some.injEq]
    rcases hat with e | e
    · intro e2; exact a4 (by rw [e, e2])
    · omega
/-- What its operations tell. -/
def KyPv (B N i : Nat) (kv : Value) (z : ByteArray) : Nat → Value → World → Prop
  | 0, y, _ => y = .pointer (some ⟨B, 3, none⟩)
  | 1, y, _ => y = kv
  | 2, y, W => ∃ g, y = .slice (some ⟨g, 0, none⟩) 3 3 ∧ N ≤ g ∧ W.heap[g]? = some (.cells #[.string lB, .string lA, .string lC] 9 (0, 0))
  | 3, y, _ => y = .int .i64 i
  | 4, y, W => ∃ g, y = .pointer (some ⟨g, i, none⟩) ∧ N ≤ g ∧ W.heap[g]? = some (.cells #[.string lB, .string lA, .string lC] 9 (0, 0))
  | 5, y, _ => y = .string z
  | 6, y, W => ∃ g, y = .slice (some ⟨g, 0, none⟩) 1 1 ∧ N ≤ g ∧ W.heap[g]? = some (.cells #[.string z] 9 (0, 0))
  | 8, y, _ => y = .pointer (some ⟨B, 3, none⟩)
  | _, _, _ => True
theorem KyPv.up {i : Nat} (hk : ∀ g, N ≤ g → g < W.heap.size → W'.heap[g]? = W.heap[g]?) {q : Nat} {y : Value} (H : KyPv B N i kv z q y W) : KyPv B N i kv z q y W' := by
  have bl : ∀ {g : Nat} {o : Obj}, N ≤ g → W.heap[g]? = some o → W'.heap[g]? = some o := fun h1 hg => (hk _ h1 (Array.getElem?_eq_some_iff.1 hg).1).trans hg
  unfold KyPv at H ⊢
  split at H
  case h_3 => obtain ⟨g, e1, e2, e3⟩ := H; exact ⟨g, e1, e2, bl e2 e3⟩
  case h_5 => obtain ⟨g, e1, e2, e3⟩ := H; exact ⟨g, e1, e2, bl e2 e3⟩
  case h_7 => obtain ⟨g, e1, e2, e3⟩ := H; exact ⟨g, e1, e2, bl e2 e3⟩
  all_goals exact H
/-- What is left behind the append to the items, ahead of the store. -/
structure OuMidI (w : World) (L R B N0 : Nat) (sa : Option Addr) (n kk : Nat) (kd : Int) (ks : List ByteArray) (kv v v' : Value) (vs : List Value) (pre : List (Oh × Ous)) (W : World) : Prop where
  grown : w.grownBy W (some L)
  res : W.heap[R]? = some ouZ
  src : SrcSt W L sa n kk
  cell : W.heap[B]? = some (.cells #[.int .i64 kd, .int .i64 0, .string ⟨#[]⟩, kv, v] 26 (0, 0))
  keys : W.ownsRow N0 9 1 kv ks.length (kV ks)
  own : W.ownsRow N0 26 5 v' pre.length vs
  kids : KidsT N0 v'.ownBlock kv.ownBlock W pre vs
theorem OuMidI.below {v' : Value} (h : OuMidI w L R B N0 sa n kk kd ks kv v v' vs pre W) (hb : Below W.heap.size W W') : OuMidI w L R B N0 sa n kk kd ks kv v v' vs pre W' :=
  ⟨grown_belowO h.grown hb, (hb.block R (Array.getElem?_eq_some_iff.1 h.res).1).trans h.res, h.src.move (hb.block L h.src.lt), (hb.block B (Array.getElem?_eq_some_iff.1 h.cell).1).trans h.cell, own_belowO h.keys hb, own_belowO h.own hb, h.kids.step hb.size (fun k a1 a2 a3 a4 => ⟨hb.block k a2, a3, a4⟩)⟩
theorem OuMidI.store {v' : Value} (h : OuMidI w L R B N0 sa n kk kd ks kv v v' vs pre W) (hp : w.heap.size ≤ R ∧ L < w.heap.size ∧ R < B ∧ B < N0) : OuIn w L R B N0 sa n kk kd ks kv v' vs pre (W.setCell ⟨B, 4, none⟩ v') := by
  have blk : ∀ g, g ≠ B → (W.setCell ⟨B, 4, none⟩ v').heap[g]? = W.heap[g]? := fun g hg => heap_set _ _ _ _ _ hg
  obtain ⟨h1, h2, h3, h4, h5, h6, h7⟩ := h
  refine ⟨grown_farO h1 (by omega) _ _, (blk R (by omega)).trans h2, h3.move (blk L (by omega)), ?_, own_setO h5 (fun g hg => blk g (by have := own_ltO h5 g hg; omega)), own_setO h6 (fun g hg => blk g (by have := own_ltO h6 g hg; omega)), h7.step (by simp) (fun k a1 a2 a3 a4 => ⟨blk k (by omega), a3, a4⟩)⟩
  have := row_set h4 4 v'
  simpa using this
/-- The region 'o.Items = append(o.Items, s.out(deep - 1))': 5 draws, 7 appends. -/
structure ItJ (w : World) (L R B N0 : Nat) (sa : Option Addr) (n kk d : Nat) (kd : Int) (ks : List ByteArray) (kv v : Value) (vs : List Value) (pre : List (Oh × Ous)) (N : Nat) (D : Array Bool) (u : Nat → Value) (W : World) : Prop where
  size : N ≤ W.heap.size
  kvN : ∀ g, kv.ownBlock = some g → g < N
  vN : ∀ g, v.ownBlock = some g → g < N
  a0 : D.getD 5 false = false → D.getD 7 false = false ∧ OuIn w L R B N0 sa n kk kd ks kv v vs pre W
  a1 : D.getD 5 false = true → D.getD 7 false = false → OuIn w L R B N0 sa n (kk + choD d) kd ks kv v vs pre W
  c6 : D.getD 6 false = true → D.getD 5 false = true
  a2 : D.getD 7 false = true → (∃ (a : Option Addr) (c : Nat), u 56 = .slice a (pre.length + 1) c) ∧ ∃ (h : Oh) (sub : Ous) (vs' : List Value), DrawnB d h sub ∧ OuMidI w L R B N0 sa n (kk + choD d) kd ks kv v (u 56) vs' (pre ++ [(h, sub)]) W
theorem ItJ.start {m d : Nat} (h : OuIn w L R B N0 sa n kk kd ks kv v vs pre W) : ItJ w L R B N0 sa n kk d kd ks kv v vs pre W.heap.size (Array.replicate m false) u W.drew := by
  have no : ∀ j, (Array.replicate m false).getD j false = false := fun j => by
    by_cases hx : j < m
    · simp [hx]
    · simp [hx]
  exact ⟨Nat.le_refl _, fun g hg => (own_ltO h.keys g hg).2.1, fun g hg => (own_ltO h.own g hg).2.1, fun _ => ⟨no 7, h.below (Below.refl _ _).drew⟩, fun e => (by rw [no 5] at e; cases e), fun e => (by rw [no 6] at e; cases e), fun e => (by rw [no 7] at e; cases e)⟩
theorem ItJ.step {d : Nat} (h : ItJ w L R B N0 sa n kk d kd ks kv v vs pre N D u W) (hb : Below W.heap.size W W') {i s : Nat} {val : Value} (hi : i ≠ 5 ∧ i ≠ 7) (h6 : i = 6 → D.getD 5 false = true) (hd : s ≠ 56) : ItJ w L R B N0 sa n kk d kd ks kv v vs pre N (D.setIfInBounds i true) (upd u s val) W' := by
  have e5 : (D.setIfInBounds i true).getD 5 false = D.getD 5 false := getD_set_ne false hi.1
  have e7 : (D.setIfInBounds i true).getD 7 false = D.getD 7 false := getD_set_ne false hi.2
  have f : upd u s val 56 = u 56 := upd_ne _ _ (Ne.symm hd)
  obtain ⟨h0, hk, hv, h1, h2, h6', h3⟩ := h
  refine ⟨Nat.le_trans h0 hb.size, hk, hv, by rw [e5, e7]; exact fun q => ⟨(h1 q).1, (h1 q).2.below hb⟩, by rw [e5, e7]; exact fun q q2 => (h2 q q2).below hb, fun q => ?_, ?_⟩
  · rw [e5]
    by_cases hi6 : i = 6
    · exact h6 hi6
    · exact h6' (by rw [getD_set_ne false hi6] at q; exact q)
  rw [e7, f]
  intro q
  obtain ⟨p1, hh, sub, vs', p2, p3⟩ := h3 q
  exact ⟨p1, hh, sub, vs', p2, p3.below hb⟩
theorem ItJ.draw {d : Nat} (h : ItJ w L R B N0 sa n kk d kd ks kv v vs pre N D u W) (hp : w.heap.size ≤ R ∧ L < w.heap.size ∧ R < B ∧ B < N0) (hs : 5 < D.size) (h5 : D.getD 5 false = false) (hg : W.grownBy W' (some L)) (hS : SrcSt W' L sa n (kk + choD d)) {val : Value} : ItJ w L R B N0 sa n kk d kd ks kv v vs pre N (D.setIfInBounds 5 true) (upd u 54 val) W' := by
  have e7 : (D.setIfInBounds 5 true).getD 7 false = D.getD 7 false := getD_set_ne false (by omega)
  obtain ⟨h0, hk, hv, h1, h2, h6', h3⟩ := h
  obtain ⟨q7, q1⟩ := h1 h5
  exact ⟨Nat.le_trans h0 hg.size, hk, hv, fun e => by simp [hs] at e, fun _ _ => q1.move hp hg hS, fun _ => by simp [hs], fun e => (by rw [e7, q7] at e; cases e)⟩
theorem ItJ.put {d : Nat} (h : ItJ w L R B N0 sa n kk d kd ks kv v vs pre N D u W) (hp : w.heap.size ≤ R ∧ L < w.heap.size ∧ R < B ∧ B < N0) (hN : N0 ≤ N) (hs : 7 < D.size) (h5 : D.getD 5 false = true) (h7 : D.getD 7 false = false) {hh : Oh} {sub : Ous} {b1 b2 : Option Addr} {f1 f2 : Nat} (hf : hh.keys.length ≤ f1) (hd : DrawnB d hh sub) (A1 : KeRow N W.heap.size W b1 hh.keys) (A2 : OuRow N W.heap.size W b2 sub) {g cap : Nat}
    (ho : W'.ownsRow N0 26 5 (.slice (some ⟨g, 0, none⟩) (pre.length + 1) cap) (pre.length + 1) (vs ++ [.int .i64 hh.k, .int .i64 hh.n, .string hh.t, .slice b1 hh.keys.length f1, .slice b2 sub.len f2])) (hg : W.grownBy W' v.ownBlock) (hat : v.ownBlock = some g ∨ g = W.heap.size) :
    ItJ w L R B N0 sa n kk d kd ks kv v vs pre N (D.setIfInBounds 7 true) (upd u 56 (.slice (some ⟨g, 0, none⟩) (pre.length + 1) cap)) W' := by
  have e5 : (D.setIfInBounds 7 true).getD 5 false = D.getD 5 false := getD_set_ne false (by omega)
  obtain ⟨h1, h2, h3, h4, h5', h6, h7'⟩ := h.a1 h5 h7
  have old : ∀ b, b < W.heap.size → b < N0 → W'.heap[b]? = W.heap[b]? := fun b hb hb0 => hg.block b hb (fun e => by have := own_ltO h6 b e.symm; omega)
  have hlen : vs.length = pre.length * 5 := by have := h6.1; omega
  refine ⟨Nat.le_trans h.size hg.size, h.kvN, h.vN, fun e => (by rw [e5, h5] at e; cases e), fun _ e => by simp [hs] at e, fun _ => by rw [e5]; exact h5, fun _ => ⟨⟨_, _, upd_at _ _ _⟩, hh, sub, _, hd, ?_, (old R (Array.getElem?_eq_some_iff.1 h2).1 (by omega)).trans h2, h3.move (old L h3.lt (by omega)), (old B (Array.getElem?_eq_some_iff.1 h4).1 (by omega)).trans h4, own_setO h5' (fun g hg2 => ?_), by rw [upd_at]; simpa using ho, ?_⟩⟩
  · exact ⟨hg.os.trans h1.os, hg.tape.trans h1.tape, hg.output.trans h1.output, Nat.le_trans h1.size hg.size, fun k hk hn => (old k (Nat.lt_of_lt_of_le hk h1.size) (by omega)).trans (h1.block k hk hn)⟩
  · obtain ⟨_, hgl, cs', hcs⟩ := own_ltO h5' g hg2
    refine hg.block g hgl (fun e => ?_)
    obtain ⟨_, _, cs2, hcs2⟩ := own_ltO h6 g e.symm
    rw [hcs2] at hcs
    simp at hcs
  · rw [upd_at]
    have hk := KidsT.more (m := N) (f1 := f1) (f2 := f2) h7' hlen hN hf (fun g hg => .inl (h.vN g hg)) (fun g hg => .inl (h.kvN g hg)) A1 A2
    refine hk.step hg.size (fun k a1 a2 a3 a4 => ⟨hg.block k a2 a3, ?_, a4⟩)
    simp only [Value.ownBlock, ne_eq, Option.some.injEq]
    rcases hat with e | e
    · intro e2; exact a3 (by rw [e, e2])
    · omega
/-- What its operations tell. -/
def ItPv (L B N d : Nat) (dd : Int) (v : Value) : Nat → Value → World → Prop
  | 0, y, _ => y = .pointer (some ⟨B, 4, none⟩)
  | 1, y, _ => y = v
  | 2, y, _ => y = .pointer (some ⟨L, 0, none⟩)
  | 3, y, _ => y = .int .i64 dd
  | 4, y, _ => y = .int .i64 (dd - 1)
  | 5, y, W => ∃ (h : Oh) (sub : Ous) (b1 b2 : Option Addr) (f1 f2 : Nat), y = .agg #[.int .i64 h.k, .int .i64 h.n, .string h.t, .slice b1 h.keys.length f1, .slice b2 sub.len f2] ∧ h.keys.length ≤ f1 ∧ DrawnB d h sub ∧ KeRow N W.heap.size W b1 h.keys ∧ OuRow N W.heap.size W b2 sub
  | 6, y, W => ∃ (g : Nat) (h : Oh) (sub : Ous) (b1 b2 : Option Addr) (f1 f2 : Nat), y = .slice (some ⟨g, 0, none⟩) 1 1 ∧ N ≤ g ∧ W.heap[g]? = some (.cells #[.int .i64 h.k, .int .i64 h.n, .string h.t, .slice b1 h.keys.length f1, .slice b2 sub.len f2] 26 (0, 0)) ∧ h.keys.length ≤ f1 ∧ DrawnB d h sub ∧ KeRow N W.heap.size W b1 h.keys ∧ OuRow N W.heap.size W b2 sub
  | 8, y, _ => y = .pointer (some ⟨B, 4, none⟩)
  | _, _, _ => True
theorem ItPv.up {d : Nat} {dd : Int} (hs : W.heap.size ≤ W'.heap.size) (hk : ∀ g, N ≤ g → g < W.heap.size → W'.heap[g]? = W.heap[g]?) {q : Nat} {y : Value} (H : ItPv L B N d dd v q y W) : ItPv L B N d dd v q y W' := by
  unfold ItPv at H ⊢
  split at H
  case h_6 => obtain ⟨h, sub, b1, b2, f1, f2, e1, e2, e3, e4, e5⟩ := H; exact ⟨h, sub, b1, b2, f1, f2, e1, e2, e3, KeRow.wide (KeRow.keep e4 hk) (Nat.le_refl _) hs, OuRow.wide (OuRow.keep e5 hk) (Nat.le_refl _) hs⟩
  case h_7 => obtain ⟨g, h, sub, b1, b2, f1, f2, e1, e2, e3, e4, e5, e6, e7⟩ := H; exact ⟨g, h, sub, b1, b2, f1, f2, e1, e2, (hk g e2 (Array.getElem?_eq_some_iff.1 e3).1).trans e3, e4, e5, KeRow.wide (KeRow.keep e6 hk) (Nat.le_refl _) hs, OuRow.wide (OuRow.keep e7 hk) (Nat.le_refl _) hs⟩
  all_goals exact H
end
end Go.Proofs.YtoaeggfnlenjkaaGreatDoor.G
