/- Answers' values that a call owns: each list in a block of its own, between two block numbers, those of one value ahead of those of the next. -/
import Derived.Test.YtoaeggfnlenjkaaGreatDoorOuText
import Derived.Test.YtoaeggfnlenjkaaGreatDoorLexMathD
import Derived.Test.YtoaeggfnlenjkaaGreatDoorDigitsD
import Derived.Test.YtoaeggfnlenjkaaGreatDoorOuDraw
import Derived.Lib.ItoaNum
import Derived.Lib.ItoaLen
import Derived.Test.YtoaeggfnlenjkaaGreatDoorOuCj
namespace Go.Proofs.YtoaeggfnlenjkaaGreatDoor.G
open Go.ChangeShapes Go.WideShapes Go.ChangeAt Go.RowKit
set_option linter.unusedVariables false

def splitL : List UInt8 → List (List UInt8)
  | [] => [[]]
  | c :: r => if c = 46 then [] :: splitL r else match splitL r with | p :: ps => (c :: p) :: ps | [] => [[c]]
theorem splitL_ne : ∀ l : List UInt8, splitL l ≠ []
  | [] => by simp [splitL]
  | c :: r => by
    rw [splitL]
    split
    · simp
    · split <;> simp
theorem splitL_none : ∀ {l : List UInt8}, (∀ c ∈ l, c ≠ 46) → splitL l = [l]
  | [], _ => rfl
  | c :: r, h => by
    rw [splitL, if_neg (h c (by simp)), splitL_none (fun x hx => h x (by simp [hx]))]
theorem splitL_cut : ∀ {p r : List UInt8}, (∀ c ∈ p, c ≠ 46) → splitL (p ++ 46 :: r) = p :: splitL r
  | [], r, _ => by simp [splitL]
  | c :: p, r, h => by
    rw [List.cons_append, splitL, if_neg (h c (by simp)), splitL_cut (fun x hx => h x (by simp [hx]))]
/-- A part is a name, or a number from 0 on. -/
def placeB (l : List UInt8) : Bool := match numT l with | some n => decide (0 ≤ n) | none => false
def partB (s : ByteArray) : Bool := nameB s || placeB s.toList
def partL (l : List UInt8) : Bool := partB ⟨l.toArray⟩
def pathB (s : ByteArray) : Bool := (splitL s.toList).all partL
def pathsB (ss : List ByteArray) : Bool := ss.all pathB
theorem bytes_list (s : ByteArray) : (⟨s.toList.toArray⟩ : ByteArray) = s := by
  rw [ByteArray.toList_eq]
theorem partL_of (s : ByteArray) : partL s.toList = partB s := by unfold partL; rw [bytes_list]
theorem toList_extract (s : ByteArray) (i j : Nat) : (s.extract i j).toList = (s.toList.drop i).take (j - i) := by
  rw [ByteArray.toList_eq, ByteArray.toList_eq]
  simp
theorem toList_size (s : ByteArray) : s.toList.length = s.size := by rw [ByteArray.toList_eq]; simp
theorem toList_get (s : ByteArray) (i : Nat) (h : i < s.size) : s.toList[i]? = some s[i] := by
  rw [ByteArray.toList_eq]
  simp [ByteArray.getElem_eq_getElem_data, h]
/-- What the answer's text is. -/
def sepT (k : Nat) : ByteArray := if 0 < k then ⟨#[44]⟩ else ⟨#[44, 34, 101, 114, 114, 111, 114, 115, 34, 58, 91]⟩
def dtTo (t : ByteArray) (ps : List ByteArray) : Nat → ByteArray
  | 0 => ⟨#[123, 34, 100, 97, 116, 97, 34, 58]⟩ ++ t
  | k + 1 => dtTo t ps k ++ (sepT k ++ ⟨#[34]⟩ ++ ps.getD k ⟨#[]⟩ ++ ⟨#[34]⟩)
def dataT (t : ByteArray) (ps : List ByteArray) : ByteArray :=
  (if 0 < ps.length then dtTo t ps ps.length ++ ⟨#[93]⟩ else dtTo t ps 0) ++ ⟨#[125]⟩
theorem sepT_size (k : Nat) : (sepT k).size ≤ 11 := by unfold sepT; split <;> decide
theorem dtTo_size (t : ByteArray) (ps : List ByteArray) : ∀ k, k ≤ ps.length → (dtTo t ps k).size ≤ 8 + t.size + 13 * k + sumW (ps.take k)
  | 0, _ => by rw [dtTo, ByteArray.size_append]; have : (⟨#[123, 34, 100, 97, 116, 97, 34, 58]⟩ : ByteArray).size = 8 := rfl; omega
  | k + 1, hk => by
    have ih := dtTo_size t ps k (by omega)
    have h1 : (⟨#[34]⟩ : ByteArray).size = 1 := rfl
    have hg : ps.getD k ⟨#[]⟩ = ps[k] := by rw [List.getD_eq_getElem?_getD, List.getElem?_eq_getElem (by omega)]; rfl
    have := sepT_size k
    rw [dtTo, hg, List.take_succ_eq_append_getElem (by omega), sumW_app, sumW_cons, sumW_nil]
    repeat rw [ByteArray.size_append]
    omega
def dataE (h : Oh) (sub : Ous) (ps : List ByteArray) : Ending :=
  if 4096 < ps.length then .returned (.tuple #[.string ⟨#[]⟩, .int .i64 2])
  else if outB 20 h sub = false then .returned (.tuple #[.string ⟨#[]⟩, .int .i64 1])
  else if pathsB ps = false then .returned (.tuple #[.string ⟨#[]⟩, .int .i64 3])
  else .returned (.tuple #[.string (dataT (outT h sub) ps), .int .i64 0])
end Go.Proofs.YtoaeggfnlenjkaaGreatDoor.G
namespace Go.Proofs.YtoaeggfnlenjkaaGreatDoor.G
set_option linter.unusedVariables false

theorem okO_mono : ∀ (l : Ous) {d e : Nat}, d ≤ e → okO d l = true → okO e l = true
  | .nil, _, _, _, _ => rfl
  | .cons h sub rest, d, e, hd, ho => by
    rw [okO_cons, oneO, Bool.and_eq_true, Bool.and_eq_true, Bool.and_eq_true, decide_eq_true_eq] at ho
    obtain ⟨⟨⟨h1, h2⟩, h3⟩, h4⟩ := ho
    rw [okO_cons, oneO, decide_eq_true (by omega), h2, okO_mono sub (show d - 1 ≤ e - 1 by omega) h3, okO_mono rest hd h4]
    rfl
theorem oneO_mono {d e : Nat} {h : Oh} {sub : Ous} (hd : d ≤ e) (ho : oneO d h sub = true) : oneO e h sub = true := by
  rw [oneO, Bool.and_eq_true, Bool.and_eq_true, decide_eq_true_eq] at ho
  rw [oneO, decide_eq_true (by omega), ho.1.2, okO_mono sub (show d - 1 ≤ e - 1 by omega) ho.2]
  rfl
def lA : ByteArray := ⟨#[97]⟩
def lB : ByteArray := ⟨#[98]⟩
def lC : ByteArray := ⟨#[99]⟩
def lP : ByteArray := ⟨#[112]⟩
def lQ : ByteArray := ⟨#[113]⟩
def lR : ByteArray := ⟨#[114]⟩
/-- The names of a drawn object: some of b, a, c, in this order. -/
def drawnK (b0 b1 b2 : Bool) : List ByteArray := (if b0 then [lB] else []) ++ (if b1 then [lA] else []) ++ (if b2 then [lC] else [])
theorem drawnK_ok (b0 b1 b2 : Bool) : keysB (drawnK b0 b1 b2) = true := by
  cases b0 <;> cases b1 <;> cases b2 <;> decide +kernel
/-- A drawn value, d deep: right, and of no more than so many values. -/
def roomD : Nat → Nat
  | 0 => 0
  | d + 1 => 3 * (1 + roomD d)
def DrawnB (d : Nat) (h : Oh) (sub : Ous) : Prop := oneO (d + 1) h sub = true ∧ sub.size ≤ roomD d
theorem drawn_leaf {d : Nat} {h : Oh} (hh : headB h .nil = true) : DrawnB d h .nil := by
  refine ⟨?_, Nat.zero_le _⟩
  rw [oneO, hh]
  simp [okO]
theorem drawn_group {d : Nat} {h : Oh} {sub : Ous} (hh : headB h sub = true) (ho : okO (d + 1) sub = true) (hs : sub.size ≤ roomD (d + 1)) : DrawnB (d + 1) h sub := by
  refine ⟨?_, hs⟩
  rw [oneO, hh, Nat.add_sub_cancel, ho]
  simp
/-- The object around. -/
def wrapH : Oh := ⟨4, 0, ⟨#[]⟩, [lP, lQ]⟩
def threeH : Oh := ⟨1, 3, ⟨#[]⟩, []⟩
def wrapS (h : Oh) (sub : Ous) : Ous := .cons h sub (.cons threeH .nil .nil)
theorem wrap_ok {h : Oh} {sub : Ous} (hx : DrawnB 3 h sub) : outB 20 wrapH (wrapS h sub) = true := by
  have h1 : oneO 19 h sub = true := oneO_mono (by omega) hx.1
  have h2 : sub.size ≤ 39 := hx.2
  have k1 : keysB [lP, lQ] = true := by decide +kernel
  refine outB_yes (by omega) ?_ ?_ ?_
  · unfold headB wrapH
    simp only
    rw [if_neg (by omega), if_neg (by omega), if_neg (by omega), if_neg (by omega), if_pos trivial, k1]
    simp [noT, ByteArray.toList_eq, wrapS, Ous.len]
  · show okO 19 (wrapS h sub) = true
    unfold wrapS
    have h3 : oneO 19 threeH .nil = true := by decide +kernel
    rw [okO_cons, h1, okO_cons, h3]
    rfl
  · simp only [wrapS, Ous.size]; omega
theorem drawn_ok {h : Oh} {sub : Ous} (hx : DrawnB 3 h sub) : outB 20 h sub = true := by
  have h1 : oneO 20 h sub = true := oneO_mono (by omega) hx.1
  have h2 : sub.size ≤ 39 := hx.2
  unfold outB
  rw [h1, decide_eq_true (by omega)]; rfl
/-- The object's text is not the value's. -/
theorem wrap_other {h : Oh} {sub : Ous} (hx : DrawnB 3 h sub) : ((outT wrapH (wrapS h sub)).toList == (outT h sub).toList) = false := by
  rw [beq_eq_false_iff_ne]
  intro e
  have e2 : outT wrapH (wrapS h sub) = outT h sub := by
    rw [← bytes_list (outT wrapH (wrapS h sub)), e, bytes_list]
  have := (out_inj (wrap_ok hx) (drawn_ok hx) e2).2
  have h3 := congrArg Ous.size this
  simp only [wrapS, Ous.size] at h3
  omega
theorem wrap_text (h : Oh) (sub : Ous) : 0 < (outT wrapH (wrapS h sub)).size := by
  unfold outT valT wrapH
  simp only
  rw [if_neg (by omega), if_neg (by omega), if_neg (by omega), ByteArray.size_append, ByteArray.size_append]
  have : (endsA (⟨4, 0, ⟨#[]⟩, [lP, lQ]⟩ : Oh)).size = 1 := endsA_size _
  omega
/-- The path that FnOut takes is right. -/
theorem path_fn : pathsB [(⟨#[97, 46, 48, 46, 98]⟩ : ByteArray)] = true := by decide +kernel
end Go.Proofs.YtoaeggfnlenjkaaGreatDoor.G
namespace Go.Proofs.YtoaeggfnlenjkaaGreatDoor.G
open Go.ChangeShapes Go.WideShapes Go.ChangeAt Go.RowKit
set_option linter.unusedVariables false

/-- How many choices a value of depth d takes at most. -/
def choD : Nat → Nat
  | 0 => 4
  | d + 1 => 4 + 3 * (1 + choD d)
def OutIs (w : World) (d L n k : Nat) (a : Option Addr) (e : Ending) (w' : World) : Prop :=
  (∃ (h : Oh) (sub : Ous) (a1 a2 : Option Addr) (c1 c2 : Nat), e = .returned (.agg #[.int .i64 h.k, .int .i64 h.n, .string h.t, .slice a1 h.keys.length c1, .slice a2 sub.len c2]) ∧ h.keys.length ≤ c1 ∧ KeRow w.heap.size w'.heap.size w' a1 h.keys ∧ OuRow w.heap.size w'.heap.size w' a2 sub ∧ DrawnB d h sub) ∧
    SrcSt w' L a n (k + choD d) ∧ w.grownBy w' (some L)
def OutAny (d : Nat) : Prop := ∀ (L n k : Nat) (a : Option Addr) (w : World), SrcSt w L a n k → ByteRow L w a n → k + choD d ≤ 100000 → n ≤ 1048576 →
  Calls Tryz.prog 33 #[.pointer (some ⟨L, 0, none⟩), .int .i64 (d : Int)] w (OutIs w d L n k a)
theorem OutIs.leaf {w w' : World} {d L n k : Nat} {a : Option Addr} {i m : Int} {t : ByteArray} (hh : headB ⟨i, m, t, []⟩ .nil = true) (hs : SrcSt w' L a n (k + choD d)) (hg : w.grownBy w' (some L)) : OutIs w d L n k a (.returned (.agg #[.int .i64 i, .int .i64 m, .string t, .slice none 0 0, .slice none 0 0])) w' :=
  ⟨⟨⟨i, m, t, []⟩, .nil, none, none, 0, 0, rfl, Nat.le_refl _, .inl rfl, .inl rfl, drawn_leaf hh⟩, hs, hg⟩
theorem res_row (tmps : Array Value) (W : World) (N : Nat) (cs : Array Value) (h4 : tmps.getD 4 undef = .pointer (some ⟨N, 0, none⟩)) (hrow : W.heap[N]? = some (.cells cs 26 (0, 0))) (hsz : cs.size = 5) :
    (results Tryz.f33 tmps).run Tryz.prog W = .ok (.agg cs) W := by
  have c5 : (Tryz.prog.info? 26).map (·.size) = some 5 := by kernel_rfl
  exact results_cell_row Tryz.results33 tmps W N 26 cs (0, 0) _ h4 hrow Tryz.underlying26 rfl (by rw [hsz]; exact c5)
theorem grown_farO {a w : World} {r : Option Nat} (h : a.grownBy w r) {b : Nat} (hb : a.heap.size ≤ b) (o : Nat) (v : Value) : a.grownBy (w.setCell ⟨b, o, none⟩ v) r :=
  ⟨h.os, h.tape, h.output, by simpa using h.size, fun k hk hn => (heap_set _ _ _ _ _ (by omega)).trans (h.block k hk hn)⟩
def putV (W : World) (R : Nat) (v0 v1 v2 v3 v4 : Value) : World := ((((W.setCell ⟨R, 0, none⟩ v0).setCell ⟨R, 1, none⟩ v1).setCell ⟨R, 2, none⟩ v2).setCell ⟨R, 3, none⟩ v3).setCell ⟨R, 4, none⟩ v4
theorem putV_row {W : World} {R : Nat} {u0 u1 u2 u3 u4 : Value} {T : TypeId} (h : W.heap[R]? = some (.cells #[u0, u1, u2, u3, u4] T (0, 0))) (v0 v1 v2 v3 v4 : Value) : (putV W R v0 v1 v2 v3 v4).heap[R]? = some (.cells #[v0, v1, v2, v3, v4] T (0, 0)) := by
  have := row_set (row_set (row_set (row_set (row_set h 0 v0) 1 v1) 2 v2) 3 v3) 4 v4
  unfold putV
  simpa using this
theorem putV_src {W : World} {R L n k : Nat} {a : Option Addr} (h : SrcSt W L a n k) (hR : L ≠ R) (v0 v1 v2 v3 v4 : Value) : SrcSt (putV W R v0 v1 v2 v3 v4) L a n k := by
  refine h.move ?_
  unfold putV
  rw [heap_set _ _ _ _ _ hR, heap_set _ _ _ _ _ hR, heap_set _ _ _ _ _ hR, heap_set _ _ _ _ _ hR, heap_set _ _ _ _ _ hR]
theorem putV_grown {w W : World} {R : Nat} {r : Option Nat} (h : w.grownBy W r) (hR : w.heap.size ≤ R) (v0 v1 v2 v3 v4 : Value) : w.grownBy (putV W R v0 v1 v2 v3 v4) r :=
  grown_farO (grown_farO (grown_farO (grown_farO (grown_farO h hR _ _) hR _ _) hR _ _) hR _ _) hR _ _
/-- A value without items, put into the result's block. -/
theorem leaf_end {w W : World} {d L n k k' : Nat} {a : Option Addr} {u0 u1 u2 u3 u4 : Value} (hrow : W.heap[w.heap.size]? = some (.cells #[u0, u1, u2, u3, u4] 26 (0, 0))) (hs : SrcSt W L a n k') (hk : k' ≤ k + choD d) (hL : L < w.heap.size) (hg : w.grownBy W (some L)) {i m : Int} {t : ByteArray} (hh : headB ⟨i, m, t, []⟩ .nil = true) (act : Act) (h4 : act.tmps.getD 4 undef = .pointer (some ⟨w.heap.size, 0, none⟩)) (hdef : act.defers = []) :
    bodyPost Tryz.prog Tryz.f33 (OutIs w d L n k a) Exit.ret act (putV W w.heap.size (.int .i64 i) (.int .i64 m) (.string t) (.slice none 0 0) (.slice none 0 0)) :=
  bodyPost_ret (v := .agg #[.int .i64 i, .int .i64 m, .string t, .slice none 0 0, .slice none 0 0]) (res_row _ _ w.heap.size _ h4 (putV_row hrow _ _ _ _ _) rfl) hdef (OutIs.leaf hh ((putV_src hs (by omega) _ _ _ _ _).more hk) (putV_grown hg (Nat.le_refl _) _ _ _ _ _))
theorem head_null : headB ⟨0, 0, ⟨#[]⟩, []⟩ .nil = true := by decide +kernel
theorem head_int {m : Int} (h : -5 ≤ m ∧ m < 20) : headB ⟨1, m, ⟨#[]⟩, []⟩ .nil = true := by
  unfold headB
  simp only
  rw [if_neg (by omega), if_pos trivial]
  simp [plainB, intO, noT, ByteArray.toList_eq, Ous.len]
  omega
def nodeW : ByteArray := ⟨#[78, 111, 100, 101]⟩
def queryW : ByteArray := ⟨#[81, 117, 101, 114, 121]⟩
theorem head_text {s : ByteArray} (h : s ∈ [nodeW, queryW]) : headB ⟨2, 0, s, []⟩ .nil = true := by
  rcases List.mem_cons.1 h with rfl | h
  · decide +kernel
  · rw [List.mem_singleton.1 h]; decide +kernel
theorem two_row (x y : ByteArray) (w : World) (L : Nat) (hL : L < w.heap.size) : KeRow (L + 1) (w.alloc (.cells #[.string x, .string y] 9)).heap.size (w.alloc (.cells #[.string x, .string y] 9)) (some ⟨w.heap.size, 0, none⟩) [x, y] := by
  refine .inr ⟨w.heap.size, 0, rfl, by omega, by simp, fun i z hz => ?_⟩
  show rdOf _ _ (0 + i * 1) = _
  rw [row_rd (heap_alloc_new w (.cells #[.string x, .string y] 9 (0, 0))), Nat.zero_add, Nat.mul_one]
  match i, hz with
  | 0, hz => simp at hz; subst hz; rfl
  | 1, hz => simp at hz; subst hz; rfl
set_option maxHeartbeats 4000000 in
theorem out_zero : OutAny 0 := by
  intro L n k a w h hr hk hn
  have hL := h.lt
  have hkk : k + 4 ≤ 100000 := hk
  obtain ⟨V, hV⟩ : ∃ V, V = w.alloc (.cells #[.int .i64 0, .int .i64 0, .string ⟨#[]⟩, .slice none 0 0, .slice none 0 0] 26) := ⟨_, rfl⟩
  have B0 : Below w.heap.size w V := by rw [hV]; exact (Below.refl _ _).alloc (Nat.le_refl _) _
  have c0 : V.heap[w.heap.size]? = some (.cells #[.int .i64 0, .int .i64 0, .string ⟨#[]⟩, .slice none 0 0, .slice none 0 0] 26 (0, 0)) := by rw [hV]; exact heap_alloc_new _ _
  have zV := (Array.getElem?_eq_some_iff.1 c0).1
  have HS : Hid (SrcSt V L a n k) := h.move (B0.block _ hL)
  have HR : Hid (ByteRow L V a n) := hr.up (by omega) B0
  have KV : Hid (∀ W, V.grownBy W (some L) → W.heap[w.heap.size]? = some (.cells #[.int .i64 0, .int .i64 0, .string ⟨#[]⟩, .slice none 0 0, .slice none 0 0] 26 (0, 0)) ∧ ByteRow L W a n ∧ w.grownBy W (some L)) := fun W hW =>
    ⟨(hW.block _ zV (by intro e; simp only [Option.some.injEq] at e; omega)).trans c0, row_keep HR.out hW, grown_trans ⟨B0.os, B0.tape, B0.output, B0.size, fun i hi _ => B0.block i hi⟩ hW⟩
  clear h hr c0 B0
  go_enter Tryz.func33, Tryz.ntmps33
  go_upto_region 1 with fail
  rw [← hV]
  clear hV
  go_wp2_with fail
  refine (next_pos 5 L n k a _ HS.out HR.out (by omega) hn (by omega) (by omega)).mono ?_
  rintro e w1 ⟨⟨v, hv, rfl⟩, st, hg⟩
  have HS1 : Hid (SrcSt w1 L a n (k + 1)) := st
  have HG1 : Hid (V.grownBy w1 (some L)) := hg
  have HR1 : Hid (ByteRow L w1 a n) := (KV.out _ hg).2.1
  clear st hg HS HR
  go_wp2_with fail
  refine (next_pos 3 L n (k + 1) a _ HS1.out HR1.out (by omega) hn (by omega) (by omega)).mono ?_
  rintro e w2 ⟨⟨u, hu, rfl⟩, st, hg⟩
  have HS2 : Hid (SrcSt w2 L a n (k + 2)) := st
  have HG2 : Hid (V.grownBy w2 (some L)) := grown_trans HG1.out hg
  have HR2 : Hid (ByteRow L w2 a n) := (KV.out _ HG2.out).2.1
  have c2 := (KV.out _ HG2.out).1
  have C2 : Hid _ := c2
  have x2 := fun o => row_cell c2 o
  have f2 := fun o => row_frozen c2 o
  clear st hg HS1 HR1 HG1 c2
  by_cases u0 : u = 0
  · subst u0
    go_wp2_with fail
    exact leaf_end (d := 0) (k := k) C2.out HS2.out (show k + 2 ≤ k + 4 by omega) hL (KV.out _ HG2.out).2.2 head_null _ rfl rfl
  by_cases u1 : u = 1
  · subst u1
    clear x2 f2 u0
    go_wp2_with fail
    refine (next_pos 20 L n (k + 2) a _ HS2.out HR2.out (by omega) hn (by omega) (by omega)).mono ?_
    rintro e w3 ⟨⟨q, hq, rfl⟩, st, hg⟩
    have HS3 : Hid (SrcSt w3 L a n (k + 3)) := st
    have HG3 : Hid (V.grownBy w3 (some L)) := grown_trans HG2.out hg
    have c3 := (KV.out _ HG3.out).1
    have C3 : Hid _ := c3
    have x3 := fun o => row_cell c3 o
    have f3 := fun o => row_frozen c3 o
    have HH : Hid (headB ⟨1, (q : Int) - 5, ⟨#[]⟩, []⟩ .nil = true) := head_int (by omega)
    clear st hg HS2 HR2 HG2 C2 c3
    go_wp2_with fail
    exact leaf_end (d := 0) (k := k) C3.out HS3.out (show k + 3 ≤ k + 4 by omega) hL (KV.out _ HG3.out).2.2 HH.out _ rfl rfl
  obtain rfl : u = 2 := by omega
  obtain ⟨U, hU⟩ : ∃ X, X = w2.alloc (.cells #[.string nodeW, .string queryW] 9) := ⟨_, rfl⟩
  have hL2 : L < w2.heap.size := HS2.out.lt
  have BU : Below w2.heap.size w2 U := by rw [hU]; exact (Below.refl _ _).alloc (Nat.le_refl _) _
  have HRW : Hid (KeRow (L + 1) U.heap.size U (some ⟨w2.heap.size, 0, none⟩) [nodeW, queryW]) := by rw [Hid, hU]; exact two_row _ _ _ _ hL2
  have HSU : Hid (SrcSt U L a n (k + 2)) := HS2.out.move (BU.block _ hL2)
  have HGU : Hid (V.grownBy U (some L)) := grown_trans HG2.out ⟨BU.os, BU.tape, BU.output, BU.size, fun i hi _ => BU.block i hi⟩
  have HRU : Hid (ByteRow L U a n) := (KV.out _ HGU.out).2.1
  clear x2 f2 u0 u1 BU HS2 HR2 HG2 C2
  go_wp2_with fail
  rw [show w2.alloc (.cells #[.string ⟨#[78, 111, 100, 101]⟩, .string ⟨#[81, 117, 101, 114, 121]⟩] 9) = U from hU.symm]
  refine (pick_any [nodeW, queryW] _ _ L n (k + 2) a U HSU.out HRU.out (by omega) hn (by simp) (by simp) HRW.out).mono ?_
  rintro e w3 ⟨⟨s, hs, rfl⟩, st, hg⟩
  have HS3 : Hid (SrcSt w3 L a n (k + 3)) := st
  have HG3 : Hid (V.grownBy w3 (some L)) := grown_trans HGU.out hg
  have c3 := (KV.out _ HG3.out).1
  have C3 : Hid _ := c3
  have x3 := fun o => row_cell c3 o
  have f3 := fun o => row_frozen c3 o
  have HH : Hid (headB ⟨2, 0, s, []⟩ .nil = true) := head_text hs
  clear st hg HSU HRU HGU HRW c3 hU
  go_wp2_with fail
  exact leaf_end (d := 0) (k := k) C3.out HS3.out (show k + 3 ≤ k + 4 by omega) hL (KV.out _ HG3.out).2.2 HH.out _ rfl rfl
end Go.Proofs.YtoaeggfnlenjkaaGreatDoor.G
namespace Go.Proofs.YtoaeggfnlenjkaaGreatDoor.G
open Go.ChangeShapes Go.WideShapes Go.ChangeAt Go.RowKit
set_option linter.unusedVariables false

theorem conv1 (n : Int) (W : World) (b : Nat) (hc : W.cell? ⟨b, 0, none⟩ = some (.int .u8 n)) :
    (convert 22 9 (.slice (some ⟨b, 0, none⟩) 1 1)).run Tryz.prog W = .ok (.string ⟨#[UInt8.ofNat n.toNat]⟩) W := by
  rw [run_convert_bytes_string W 22 9 5 _ 1 1 Tryz.underlying22 Tryz.underlying5 Tryz.underlying9]
  rw [run_bytesToString W ⟨b, 0, none⟩ 1 1 [n] (run_loadCells_list W ⟨b, 0, none⟩ [.int .u8 n] (fun j v hv => by
    cases j with
    | zero => simp at hv; subst hv; simpa [Addr.add] using hc
    | succ j => simp at hv))]
  rfl
theorem ret_str {a b : ByteArray} (h : a = b) : Ending.returned (.string a) = .returned (.string b) := by rw [h]
theorem quo10 (n : Int) (h0 : 0 ≤ n) (h1 : n ≤ 9223372036854775807) : IntKind.i64.wrap (n.tdiv 10) = n / 10 := by
  rw [Int.tdiv_eq_ediv_of_nonneg h0, wrap_small _ (by omega) (by omega)]
theorem rem10 (n : Int) (h0 : 0 ≤ n) : IntKind.u8.wrap (IntKind.i64.wrap (48 + n.tmod 10)) = 48 + n % 10 := by
  rw [Int.tmod_eq_emod_of_nonneg h0, wrap_small _ (by omega) (by omega), IntKind.wrap_u8]; omega
/-- A mark's text. -/
def mkT (k : Nat) : ByteArray := ⟨(109 :: Lib.decDigits k).toArray⟩
theorem digits_len20 (k : Nat) (h : (k : Int) ≤ 4611686018427387904) : (Lib.decDigits k).length ≤ 20 := by
  rw [Lib.decDigits_length]; exact Lib.nDigits_le20 k (by omega)
theorem rem10' (n : Nat) : IntKind.u8.wrap (IntKind.i64.wrap (48 + (n : Int).tmod 10)) = 48 + (n : Int) % 10 := rem10 n (by omega)

end Go.Proofs.YtoaeggfnlenjkaaGreatDoor.G
namespace Go.Proofs.YtoaeggfnlenjkaaGreatDoor.G
open Go.ChangeShapes Go.WideShapes Go.ChangeAt Go.RowKit
set_option linter.unusedVariables false

/-- Nothing has turned but some blocks, and new ones were made. -/
structure Kept (bs : List Nat) (w w' : World) : Prop where
  os : w'.os = w.os
  tape : w'.tape = w.tape
  output : w'.output = w.output
  size : w.heap.size ≤ w'.heap.size
  block : ∀ k, k < w.heap.size → ¬ k ∈ bs → w'.heap[k]? = w.heap[k]?
theorem Kept.refl (bs : List Nat) (w : World) : Kept bs w w := ⟨rfl, rfl, rfl, Nat.le_refl _, fun _ _ _ => rfl⟩
theorem Kept.trans {bs : List Nat} {a b c : World} (h : Kept bs a b) (k : Kept bs b c) : Kept bs a c :=
  ⟨k.os.trans h.os, k.tape.trans h.tape, k.output.trans h.output, Nat.le_trans h.size k.size, fun g hg hn => (k.block g (Nat.lt_of_lt_of_le hg h.size) hn).trans (h.block g hg hn)⟩
theorem Kept.mono {bs cs : List Nat} {a b : World} (h : Kept bs a b) (hs : ∀ x ∈ bs, x ∈ cs) : Kept cs a b :=
  ⟨h.os, h.tape, h.output, h.size, fun g hg hn => h.block g hg (fun hx => hn (hs g hx))⟩
theorem Kept.of {bs : List Nat} {a b : World} (h : Below a.heap.size a b) : Kept bs a b := ⟨h.os, h.tape, h.output, h.size, fun g hg _ => h.block g hg⟩
theorem Kept.set {bs : List Nat} {a b : World} (h : Kept bs a b) {p : Addr} (hp : p.block ∈ bs) (v : Value) : Kept bs a (b.setCell p v) := by
  have hb : Below (p.block) b (b.setCell p v) := (Below.refl _ _).setCell (Nat.le_refl _) v
  exact h.trans ⟨hb.os, hb.tape, hb.output, hb.size, fun g _ hn => Below.heap_setCell _ _ _ _ (fun e => hn (e ▸ hp))⟩
theorem Kept.below {bs : List Nat} {a b : World} (h : Kept bs a b) {B : Nat} (hB : B ≤ a.heap.size) (hs : ∀ x ∈ bs, B ≤ x) : Below B a b :=
  ⟨h.os, h.tape, h.output, h.size, fun g hg => h.block g (by omega) (fun hx => by have := hs g hx; omega)⟩

def mks {α : Type} (f : Nat → α → α) (c : α → Nat) : Nat → List α → List α
  | _, [] => []
  | k, x :: r => f k x :: mks f c (k + c x) r
def cnt {α : Type} (c : α → Nat) : List α → Nat
  | [] => 0
  | x :: r => c x + cnt c r
theorem mks_length {α : Type} (f : Nat → α → α) (c : α → Nat) : ∀ (k : Nat) (l : List α), (mks f c k l).length = l.length
  | _, [] => rfl
  | k, x :: r => by simp [mks, mks_length f c (k + c x) r]
theorem mks_get {α : Type} (f : Nat → α → α) (c : α → Nat) : ∀ (k : Nat) (l : List α) (i : Nat) (h : i < l.length), (mks f c k l)[i]? = some (f (k + cnt c (l.take i)) l[i])
  | k, [], i, h => by simp at h
  | k, x :: r, 0, h => by simp [mks, cnt]
  | k, x :: r, i + 1, h => by
    have := mks_get f c (k + c x) r i (by simpa using h)
    simp only [mks, List.getElem?_cons_succ, this, List.take_succ_cons, cnt, List.getElem_cons_succ]
    congr 2; omega
theorem cnt_append {α : Type} (c : α → Nat) (a b : List α) : cnt c (a ++ b) = cnt c a + cnt c b := by
  induction a with
  | nil => simp [cnt]
  | cons x a ih => simp only [List.cons_append, cnt, ih]; omega
theorem cnt_take {α : Type} (c : α → Nat) {l : List α} {i : Nat} (h : i < l.length) : cnt c (l.take (i + 1)) = cnt c (l.take i) + c l[i] := by
  rw [List.take_succ_eq_append_getElem h, cnt_append]; simp [cnt]
theorem cnt_le {α : Type} (c : α → Nat) (l : List α) (i : Nat) : cnt c (l.take i) ≤ cnt c l := by
  have : cnt c l = cnt c (l.take i) + cnt c (l.drop i) := by rw [← cnt_append, List.take_append_drop]
  omega
/-- The first i of one list, the rest of another. -/
def mix {α : Type} (m l : List α) (i : Nat) : List α := m.take i ++ l.drop i
theorem mix_len {α : Type} {m l : List α} {i : Nat} (h : m.length = l.length) (hi : i ≤ l.length) : (mix m l i).length = l.length := by simp [mix]; omega
theorem mix_zero {α : Type} (m l : List α) : mix m l 0 = l := by simp [mix]
theorem mix_all {α : Type} {m l : List α} (h : m.length = l.length) : mix m l l.length = m := by
  unfold mix; rw [List.drop_length, ← h, List.take_length]; simp
theorem mix_at {α : Type} {m l : List α} {i : Nat} (h : m.length = l.length) (hi : i < l.length) : (mix m l i)[i]? = some l[i] := by
  unfold mix
  rw [List.getElem?_append_right (by simp; omega)]
  simp only [List.length_take, List.getElem?_drop]
  rw [show i + (i - min i m.length) = i by omega, List.getElem?_eq_getElem hi]
theorem mix_next {α : Type} {m l : List α} {i : Nat} (h : m.length = l.length) (hi : i < l.length) (j : Nat) (hj : j ≠ i) : (mix m l (i + 1))[j]? = (mix m l i)[j]? := by
  unfold mix
  by_cases hlt : j < i
  · rw [List.getElem?_append_left (by simp; omega), List.getElem?_append_left (by simp; omega), List.getElem?_take, List.getElem?_take]
    simp [show j < i + 1 by omega, hlt]
  · rw [List.getElem?_append_right (by simp; omega), List.getElem?_append_right (by simp; omega)]
    simp only [List.length_take, List.getElem?_drop]
    congr 1; omega
theorem mix_new {α : Type} {m l : List α} {i : Nat} (h : m.length = l.length) (hi : i < l.length) : (mix m l (i + 1))[i]? = m[i]? := by
  unfold mix
  rw [List.getElem?_append_left (by simp; omega), List.getElem?_take]; simp
def m3 (k : Nat) : Bool := decide (k % 3 = 0)
theorem m3_eq (k : Nat) : ((k : Int).tmod 3 == 0) = m3 k := by
  unfold m3
  rw [Bool.eq_iff_iff]
  simp only [beq_iff_eq, decide_eq_true_eq]
  rw [Int.tmod_eq_emod_of_nonneg (by omega)]
  omega
end Go.Proofs.YtoaeggfnlenjkaaGreatDoor.G
namespace Go.Proofs.YtoaeggfnlenjkaaGreatDoor.G
open Go.ChangeShapes Go.WideShapes Go.ChangeAt Go.RowKit
set_option linter.unusedVariables false

def OwnR {α : Type} (at_ : (Nat → Option Value) → Nat → α → Prop) (z : Nat) (ty : TypeId) (lo hi : Nat) (w : World) (a : Option Addr) (l : List α) : Prop :=
  l = [] ∨ ∃ b cs, a = some ⟨b, 0, none⟩ ∧ lo ≤ b ∧ b < hi ∧ w.heap[b]? = some (.cells cs ty (0, 0)) ∧ l.length * z ≤ cs.size ∧ ∀ i x, l[i]? = some x → at_ (fun j => cs[j]?) (i * z) x
abbrev KeOwn := OwnR KeAt 1 9
theorem OwnR.keep {α : Type} {at_ : (Nat → Option Value) → Nat → α → Prop} {z : Nat} {ty : TypeId} {lo hi : Nat} {w w' : World} {a : Option Addr} {l : List α} (h : OwnR at_ z ty lo hi w a l) (hk : Agree lo hi w w') : OwnR at_ z ty lo hi w' a l := by
  rcases h with h | ⟨b, cs, rfl, h1, h2, h3, h4, h5⟩
  · exact .inl h
  · exact .inr ⟨b, cs, rfl, h1, h2, (hk b h1 h2).trans h3, h4, h5⟩
theorem OwnR.wide {α : Type} {at_ : (Nat → Option Value) → Nat → α → Prop} {z : Nat} {ty : TypeId} {lo hi lo' hi' : Nat} {w : World} {a : Option Addr} {l : List α} (h : OwnR at_ z ty lo hi w a l) (e1 : lo' ≤ lo) (e2 : hi ≤ hi') : OwnR at_ z ty lo' hi' w a l := by
  rcases h with h | ⟨b, cs, rfl, h1, h2, h3, h4, h5⟩
  · exact .inl h
  · exact .inr ⟨b, cs, rfl, by omega, by omega, h3, h4, h5⟩
theorem OwnR.row {α : Type} {at_ : (Nat → Option Value) → Nat → α → Prop} {z : Nat} {ty : TypeId} {lo hi : Nat} {w : World} {a : Option Addr} {l : List α} (h : OwnR at_ z ty lo hi w a l) : Row at_ z lo hi w a l := by
  rcases h with h | ⟨b, cs, rfl, h1, h2, h3, h4, h5⟩
  · exact .inl h
  · exact .inr ⟨b, 0, rfl, h1, h2, fun i x hx => by rw [row_rd h3, Nat.zero_add]; exact h5 i x hx⟩
theorem ke_row {lo hi : Nat} {w : World} {a : Option Addr} {l : List ByteArray} (h : KeOwn lo hi w a l) : KeRow lo hi w a l := OwnR.row h

/-- Values in a block's cells from a place on; their lists lie from lo up and below hi, in order. -/
def OuSeq (w : World) : Ous → Array Value → Nat → Nat → Nat → Prop
  | .nil, _, _, lo, hi => lo ≤ hi
  | .cons h sub rest, cs, o, lo, hi => ∃ m1 m3, lo ≤ m1 ∧ m1 ≤ m3 ∧ cs[o]? = some (.int .i64 h.k) ∧ cs[o + 1]? = some (.int .i64 h.n) ∧ cs[o + 2]? = some (.string h.t) ∧
      (∃ a c, cs[o + 3]? = some (.slice a h.keys.length c) ∧ h.keys.length ≤ c ∧ KeOwn lo m1 w a h.keys) ∧
      (∃ a c, cs[o + 4]? = some (.slice a sub.len c) ∧ (sub = .nil ∨ ∃ b ds, a = some ⟨b, 0, none⟩ ∧ m1 ≤ b ∧ b < m3 ∧ w.heap[b]? = some (.cells ds 26 (0, 0)) ∧ sub.len * 5 ≤ ds.size ∧ OuSeq w sub ds 0 (b + 1) m3)) ∧
      OuSeq w rest cs (o + 5) m3 hi
def OuOwn (lo hi : Nat) (w : World) (a : Option Addr) (l : Ous) : Prop :=
  l = .nil ∨ ∃ b ds, a = some ⟨b, 0, none⟩ ∧ lo ≤ b ∧ b < hi ∧ w.heap[b]? = some (.cells ds 26 (0, 0)) ∧ l.len * 5 ≤ ds.size ∧ OuSeq w l ds 0 (b + 1) hi
/-- One value's cells and lists. -/
def OuOne (w : World) (h : Oh) (sub : Ous) (cs : Array Value) (o lo hi : Nat) : Prop :=
  ∃ m1, lo ≤ m1 ∧ m1 ≤ hi ∧ cs[o]? = some (.int .i64 h.k) ∧ cs[o + 1]? = some (.int .i64 h.n) ∧ cs[o + 2]? = some (.string h.t) ∧
      (∃ a c, cs[o + 3]? = some (.slice a h.keys.length c) ∧ h.keys.length ≤ c ∧ KeOwn lo m1 w a h.keys) ∧
      (∃ a c, cs[o + 4]? = some (.slice a sub.len c) ∧ OuOwn m1 hi w a sub)
theorem OuSeq.uncons {w : World} {h : Oh} {sub rest : Ous} {cs : Array Value} {o lo hi : Nat} (H : OuSeq w (.cons h sub rest) cs o lo hi) : ∃ m, OuOne w h sub cs o lo m ∧ OuSeq w rest cs (o + 5) m hi := by
  obtain ⟨m1, m3, e1, e2, c0, c1, c2, p3, p4, pr⟩ := H
  exact ⟨m3, ⟨m1, e1, e2, c0, c1, c2, p3, p4⟩, pr⟩
theorem OuSeq.cons {w : World} {h : Oh} {sub rest : Ous} {cs : Array Value} {o lo m hi : Nat} (H : OuOne w h sub cs o lo m) (R : OuSeq w rest cs (o + 5) m hi) : OuSeq w (.cons h sub rest) cs o lo hi := by
  obtain ⟨m1, e1, e2, c0, c1, c2, p3, p4⟩ := H
  exact ⟨m1, m, e1, e2, c0, c1, c2, p3, p4, R⟩
theorem OuSeq.le {w : World} : ∀ {l : Ous} {cs : Array Value} {o lo hi : Nat}, OuSeq w l cs o lo hi → lo ≤ hi
  | .nil, _, _, _, _, h => h
  | .cons h sub rest, cs, o, lo, hi, H => by
    obtain ⟨m1, m3, e1, e2, c0, c1, c2, p3, p4, pr⟩ := H
    have := OuSeq.le pr
    omega
theorem OuSeq.keep {w w' : World} : ∀ {l : Ous} {cs : Array Value} {o lo hi : Nat}, OuSeq w l cs o lo hi → Agree lo hi w w' → OuSeq w' l cs o lo hi
  | .nil, _, _, _, _, h, _ => h
  | .cons h sub rest, cs, o, lo, hi, H, hk => by
    obtain ⟨m1, m3, e1, e2, c0, c1, c2, ⟨a3, d3, p3, pc, q3⟩, ⟨a5, d5, p5, q5⟩, pr⟩ := H
    have hm := OuSeq.le pr
    refine ⟨m1, m3, e1, e2, c0, c1, c2, ⟨a3, d3, p3, pc, q3.keep fun g h1 h2 => hk g (by omega) (by omega)⟩, ⟨a5, d5, p5, ?_⟩, OuSeq.keep pr fun g h1 h2 => hk g (by omega) (by omega)⟩
    rcases q5 with q5 | ⟨b, ds, rfl, f1, f2, f3, f4, f5⟩
    · exact .inl q5
    · exact .inr ⟨b, ds, rfl, f1, f2, (hk b (by omega) (by omega)).trans f3, f4, OuSeq.keep f5 fun g h1 h2 => hk g (by omega) (by omega)⟩
theorem OuSeq.widen {w : World} : ∀ {l : Ous} {cs : Array Value} {o lo hi hi' : Nat}, OuSeq w l cs o lo hi → hi ≤ hi' → OuSeq w l cs o lo hi'
  | .nil, _, _, _, _, _, h, e => Nat.le_trans h e
  | .cons h sub rest, cs, o, lo, hi, hi', H, e => by
    obtain ⟨m, H1, H2⟩ := H.uncons
    exact OuSeq.cons H1 (OuSeq.widen H2 e)
theorem OuOwn.keep {lo hi : Nat} {w w' : World} {a : Option Addr} {l : Ous} (h : OuOwn lo hi w a l) (hk : Agree lo hi w w') : OuOwn lo hi w' a l := by
  rcases h with h | ⟨b, ds, rfl, f1, f2, f3, f4, f5⟩
  · exact .inl h
  · exact .inr ⟨b, ds, rfl, f1, f2, (hk b (by omega) (by omega)).trans f3, f4, OuSeq.keep f5 fun g h1 h2 => hk g (by omega) (by omega)⟩
theorem OuOwn.wide {lo hi lo' hi' : Nat} {w : World} {a : Option Addr} {l : Ous} (h : OuOwn lo hi w a l) (e1 : lo' ≤ lo) (e2 : hi ≤ hi') : OuOwn lo' hi' w a l := by
  rcases h with h | ⟨b, ds, rfl, f1, f2, f3, f4, f5⟩
  · exact .inl h
  · exact .inr ⟨b, ds, rfl, by omega, by omega, f3, f4, OuSeq.widen f5 e2⟩
theorem OuOne.keep {w w' : World} {h : Oh} {sub : Ous} {cs : Array Value} {o lo hi : Nat} (H : OuOne w h sub cs o lo hi) (hk : Agree lo hi w w') : OuOne w' h sub cs o lo hi := by
  obtain ⟨m1, e1, e2, c0, c1, c2, ⟨a3, d3, p3, pc, q3⟩, ⟨a5, d5, p5, q5⟩⟩ := H
  exact ⟨m1, e1, e2, c0, c1, c2, ⟨a3, d3, p3, pc, q3.keep fun g h1 h2 => hk g (by omega) (by omega)⟩, ⟨a5, d5, p5, q5.keep fun g h1 h2 => hk g (by omega) (by omega)⟩⟩
theorem OuOne.widen {w : World} {h : Oh} {sub : Ous} {cs : Array Value} {o lo hi hi' lo' : Nat} (H : OuOne w h sub cs o lo hi) (e : hi ≤ hi') (e' : lo' ≤ lo) : OuOne w h sub cs o lo' hi' := by
  obtain ⟨m1, e1, e2, c0, c1, c2, ⟨a3, d3, p3, pc, q3⟩, ⟨a5, d5, p5, q5⟩⟩ := H
  exact ⟨m1, by omega, by omega, c0, c1, c2, ⟨a3, d3, p3, pc, q3.wide e' (Nat.le_refl _)⟩, ⟨a5, d5, p5, q5.wide (Nat.le_refl _) e⟩⟩
/-- Only the cells of a list count. -/
theorem OuSeq.cells {w : World} {cs cs' : Array Value} : ∀ {l : Ous} {o lo hi : Nat}, OuSeq w l cs o lo hi → (∀ j, o ≤ j → j < o + 5 * l.len → cs'[j]? = cs[j]?) → OuSeq w l cs' o lo hi
  | .nil, _, _, _, h, _ => h
  | .cons h sub rest, o, lo, hi, H, hc => by
    obtain ⟨m1, m3, e1, e2, c0, c1, c2, ⟨a3, d3, p3, pc, q3⟩, ⟨a5, d5, p5, q5⟩, pr⟩ := H
    simp only [Ous.len] at hc
    exact ⟨m1, m3, e1, e2, (hc _ (by omega) (by omega)).trans c0, (hc _ (by omega) (by omega)).trans c1, (hc _ (by omega) (by omega)).trans c2, ⟨a3, d3, (hc _ (by omega) (by omega)).trans p3, pc, q3⟩, ⟨a5, d5, (hc _ (by omega) (by omega)).trans p5, q5⟩, OuSeq.cells pr fun j h1 h2 => hc j (by omega) (by omega)⟩
theorem OuOwn.toRow {lo hi : Nat} {w : World} : ∀ {l : Ous} {cs : Array Value} {rd : Nat → Option Value} {o p m : Nat}, OuSeq w l cs o p m → (∀ j, rd j = cs[j]?) → lo ≤ p → m ≤ hi → OuPre lo hi w l rd o l.len
  | .nil, _, _, _, _, _, _, _, _, _ => trivial
  | .cons h sub rest, cs, rd, o, p, m, H, hrd, h1, h2 => by
    obtain ⟨m1, m3, e1, e2, c0, c1, c2, ⟨a3, d3, p3, pc, q3⟩, ⟨a5, d5, p5, q5⟩, pr⟩ := H
    have hm := OuSeq.le pr
    refine .inr ⟨⟨(hrd _).trans c0, (hrd _).trans c1, (hrd _).trans c2, a3, d3, (hrd _).trans p3, pc, ke_row (q3.wide h1 (by omega))⟩, ⟨a5, d5, (hrd _).trans p5, ?_⟩, ?_⟩
    · rcases q5 with q5 | ⟨b, ds, rfl, f1, f2, f3, f4, f5⟩
      · exact .inl q5
      · exact .inr ⟨b, 0, rfl, by omega, by omega, OuOwn.toRow f5 (fun j => row_cell f3 j) (by omega) (by omega)⟩
    · simp only [Ous.len, Nat.add_sub_cancel]
      exact OuOwn.toRow pr hrd (by omega) h2
theorem OuOwn.row {lo hi : Nat} {w : World} {a : Option Addr} {l : Ous} (h : OuOwn lo hi w a l) : OuRow lo hi w a l := by
  rcases h with h | ⟨b, ds, rfl, f1, f2, f3, f4, f5⟩
  · exact .inl h
  · exact .inr ⟨b, 0, rfl, f1, f2, OuOwn.toRow f5 (fun j => row_cell f3 j) (by omega) (Nat.le_refl _)⟩
/-- One more value behind a list. -/
theorem OuSeq.snoc {w : World} {cs : Array Value} {h : Oh} {sub : Ous} : ∀ (pre : List (Oh × Ous)) {o lo m hi : Nat}, OuSeq w (appO pre .nil) cs o lo m → OuOne w h sub cs (o + 5 * pre.length) m hi → OuSeq w (appO (pre ++ [(h, sub)]) .nil) cs o lo hi
  | [], o, lo, m, hi, H, R => by
    have H : lo ≤ m := H
    have R' : OuOne w h sub cs o lo hi := OuOne.widen (by simpa using R) (Nat.le_refl _) H
    exact OuSeq.cons (rest := .nil) R' (Nat.le_refl hi)
  | x :: pre, o, lo, m, hi, H, R => by
    obtain ⟨m', H1, H2⟩ := OuSeq.uncons (rest := appO pre .nil) H
    refine OuSeq.cons (rest := appO (pre ++ [(h, sub)]) .nil) H1 (OuSeq.snoc pre H2 ?_)
    rw [show o + 5 + 5 * pre.length = o + 5 * (x :: pre).length by simp only [List.length_cons]; omega]
    exact R
/-- Nothing has turned but blocks from lo up and below hi, and new ones were made. -/
structure KeptR (lo hi : Nat) (w w' : World) : Prop where
  os : w'.os = w.os
  tape : w'.tape = w.tape
  output : w'.output = w.output
  size : w.heap.size ≤ w'.heap.size
  block : ∀ k, k < w.heap.size → (k < lo ∨ hi ≤ k) → w'.heap[k]? = w.heap[k]?
theorem KeptR.refl (lo hi : Nat) (w : World) : KeptR lo hi w w := ⟨rfl, rfl, rfl, Nat.le_refl _, fun _ _ _ => rfl⟩
theorem KeptR.trans {lo hi : Nat} {a b c : World} (h : KeptR lo hi a b) (k : KeptR lo hi b c) : KeptR lo hi a c :=
  ⟨k.os.trans h.os, k.tape.trans h.tape, k.output.trans h.output, Nat.le_trans h.size k.size, fun g hg hn => (k.block g (Nat.lt_of_lt_of_le hg h.size) hn).trans (h.block g hg hn)⟩
theorem KeptR.mono {lo hi lo' hi' : Nat} {a b : World} (h : KeptR lo hi a b) (e1 : lo' ≤ lo) (e2 : hi ≤ hi') : KeptR lo' hi' a b :=
  ⟨h.os, h.tape, h.output, h.size, fun g hg hn => h.block g hg (by omega)⟩
theorem KeptR.of {lo hi : Nat} {a b : World} (h : Below a.heap.size a b) : KeptR lo hi a b := ⟨h.os, h.tape, h.output, h.size, fun g hg _ => h.block g hg⟩
theorem KeptR.set {lo hi : Nat} {a b : World} (h : KeptR lo hi a b) {p : Addr} (h1 : lo ≤ p.block) (h2 : p.block < hi) (v : Value) : KeptR lo hi a (b.setCell p v) := by
  have hb : Below (p.block) b (b.setCell p v) := (Below.refl _ _).setCell (Nat.le_refl _) v
  exact h.trans ⟨hb.os, hb.tape, hb.output, hb.size, fun g _ hn => Below.heap_setCell _ _ _ _ (by omega)⟩
theorem KeptR.below {lo hi : Nat} {a b : World} (h : KeptR lo hi a b) {B : Nat} (hB : B ≤ a.heap.size) (hs : B ≤ lo) : Below B a b :=
  ⟨h.os, h.tape, h.output, h.size, fun g hg => h.block g (by omega) (.inl (by omega))⟩

/-- The marks of the law. -/
def fKe (k : Nat) (_ : ByteArray) : ByteArray := mkT k
def c1K (_ : ByteArray) : Nat := 1
def mkKe (k : Nat) (l : List ByteArray) : List ByteArray := mks fKe c1K k l
theorem cnt1 : ∀ l : List ByteArray, cnt c1K l = l.length
  | [] => rfl
  | x :: r => by simp only [cnt, c1K, List.length_cons, cnt1 r]; omega
theorem mkKe_len (k : Nat) (l : List ByteArray) : (mkKe k l).length = l.length := mks_length _ _ _ _
theorem mkKe_get (k : Nat) (l : List ByteArray) (i : Nat) (h : i < l.length) : (mkKe k l)[i]? = some (mkT (k + i)) := by
  rw [mkKe, mks_get _ _ _ _ _ h, cnt1, List.length_take, show min i l.length = i by omega]; rfl
def mkOh (k : Nat) (h : Oh) : Oh := ⟨(k : Int), ((k + 1 : Nat) : Int), mkT (k + 2), mkKe (k + 3) h.keys⟩
def cOh (h : Oh) : Nat := 3 + h.keys.length
def cO : Ous → Nat
  | .nil => 0
  | .cons h sub rest => cOh h + cO sub + cO rest
def mkO : Nat → Ous → Ous
  | _, .nil => .nil
  | k, .cons h sub rest => .cons (mkOh k h) (mkO (k + cOh h) sub) (mkO (k + cOh h + cO sub) rest)
theorem mkO_len : ∀ (k : Nat) (l : Ous), (mkO k l).len = l.len
  | _, .nil => rfl
  | k, .cons h sub rest => by simp only [mkO, Ous.len, mkO_len]
def cPo : List (Oh × Ous) → Nat
  | [] => 0
  | x :: p => cOh x.1 + cO x.2 + cPo p
def mkPo : Nat → List (Oh × Ous) → List (Oh × Ous)
  | _, [] => []
  | k, x :: p => (mkOh k x.1, mkO (k + cOh x.1) x.2) :: mkPo (k + cOh x.1 + cO x.2) p
theorem mkPo_len : ∀ (k : Nat) (p : List (Oh × Ous)), (mkPo k p).length = p.length
  | _, [] => rfl
  | k, x :: p => by simp [mkPo, mkPo_len]
theorem mkPo_snoc : ∀ (k : Nat) (p : List (Oh × Ous)) (h : Oh) (sub : Ous), mkPo k (p ++ [(h, sub)]) = mkPo k p ++ [(mkOh (k + cPo p) h, mkO (k + cPo p + cOh h) sub)]
  | k, [], h, sub => by simp [mkPo, cPo]
  | k, x :: p, h, sub => by
    simp only [List.cons_append, mkPo, cPo, mkPo_snoc, List.cons.injEq, true_and]
    rw [show k + cOh x.1 + cO x.2 + cPo p = k + (cOh x.1 + cO x.2 + cPo p) by omega]
theorem cPo_snoc : ∀ (p : List (Oh × Ous)) (h : Oh) (sub : Ous), cPo (p ++ [(h, sub)]) = cPo p + cOh h + cO sub
  | [], h, sub => by simp [cPo]
  | x :: p, h, sub => by simp only [List.cons_append, cPo, cPo_snoc]; omega
theorem cO_app : ∀ (p : List (Oh × Ous)) (r : Ous), cO (appO p r) = cPo p + cO r
  | [], r => by simp [appO, cPo]
  | x :: p, r => by simp only [appO, cO, cPo, cO_app]; omega
theorem mkO_app : ∀ (k : Nat) (p : List (Oh × Ous)) (r : Ous), mkO k (appO p r) = appO (mkPo k p) (mkO (k + cPo p) r)
  | k, [], r => by simp [appO, mkPo, cPo]
  | k, x :: p, r => by
    simp only [appO, mkO, mkPo, cPo, mkO_app]
    rw [show k + cOh x.1 + cO x.2 + cPo p = k + (cOh x.1 + cO x.2 + cPo p) by omega]
theorem len_cO : ∀ l : Ous, l.len ≤ cO l
  | .nil => Nat.le_refl _
  | .cons h sub rest => by have := len_cO rest; simp only [Ous.len, cO, cOh]; omega
theorem val_mk {z : Int} {k : Nat} (h : z = k) : Value.string (mkT z.toNat) = .string (mkT k) := by subst h; simp
theorem val_mkn {a b : Nat} (h : a = b) : Value.string (mkT a) = .string (mkT b) := by rw [h]
theorem val_int {z : Int} {k : Nat} (h : z = k) : Value.int .i64 z = .int .i64 (k : Int) := by rw [h]
end Go.Proofs.YtoaeggfnlenjkaaGreatDoor.G
