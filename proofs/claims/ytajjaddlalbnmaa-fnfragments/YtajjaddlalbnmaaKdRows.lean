/- Rows of drawn selections, each list in a block of its own: what the draws share. (Out of PdRows and its neighbours.) -/
import Derived.Test.YtajjaddlalbnmaaSelFrom
import Derived.Test.YtajjaddlalbnmaaDocVal
import Derived.Deep.AppendLies
import Derived.Deep.CutRange
import Derived.Deep.CutBlock
namespace Go.Proofs.Ytajjaddlalbnmaa
open Go.ChangeShapes Go.WideShapes Go.ChangeAt Go.RowKit
set_option linter.unusedVariables false

/-- Only the reader's own block, of what was there, has turned. -/
theorem grown_refl (w : World) (r : Option Nat) : w.grownBy w r := ⟨rfl, rfl, rfl, Nat.le_refl _, fun _ _ _ => rfl⟩
theorem grown_trans {a b c : World} {r : Option Nat} (h : a.grownBy b r) (k : b.grownBy c r) : a.grownBy c r :=
  ⟨k.os.trans h.os, k.tape.trans h.tape, k.output.trans h.output, Nat.le_trans h.size k.size, fun i hi hr => (k.block i (Nat.lt_of_lt_of_le hi h.size) hr).trans (h.block i hi hr)⟩
theorem grown_set {a b : World} {L : Nat} (h : a.grownBy b (some L)) (o : Nat) (v : Value) : a.grownBy (b.setCell ⟨L, o, none⟩ v) (some L) :=
  ⟨h.os, h.tape, h.output, by have := h.size; simpa [World.setCell] using this, fun i hi hr => by
    rw [Below.heap_setCell _ _ _ _ (fun e => hr (by rw [e]))]; exact h.block i hi hr⟩
theorem grown_drewN (w : World) (n : Nat) (r : Option Nat) : w.grownBy (w.drewN n) r := ⟨rfl, rfl, rfl, Nat.le_refl _, fun _ _ _ => rfl⟩
theorem grown_drew {a b : World} {r : Option Nat} (h : a.grownBy b r) : a.grownBy b.drew r := ⟨h.os, h.tape, h.output, h.size, h.block⟩
theorem grown_below {a b c : World} {r : Option Nat} (h : a.grownBy b r) (k : Below b.heap.size b c) : a.grownBy c r :=
  ⟨k.os.trans h.os, k.tape.trans h.tape, k.output.trans h.output, Nat.le_trans h.size k.size, fun i hi hr => (k.block i (Nat.lt_of_lt_of_le hi h.size)).trans (h.block i hi hr)⟩
theorem grown_alloc {a b : World} {r : Option Nat} (h : a.grownBy b r) (o : Obj) : a.grownBy (b.alloc o) r := grown_below h ((Below.refl _ _).alloc (Nat.le_refl _) _)
theorem grown_new {a b : World} {L M o : Nat} (h : a.grownBy b (some L)) (hM : a.heap.size ≤ M) (v : Value) : a.grownBy (b.setCell ⟨M, o, none⟩ v) (some L) :=
  ⟨h.os, h.tape, h.output, by have := h.size; simpa [World.setCell] using this, fun i hi hr => by
    rw [Below.heap_setCell _ _ _ _ (by show i ≠ M; omega)]; exact h.block i hi hr⟩
theorem own_grown {w w' : World} {base L : Nat} {e : TypeId} {size n : Nat} {v : Value} {xs : List Value} (h : w.ownsRow base e size v n xs) (hg : w.grownBy w' (some L)) (hL : L < base) : w'.ownsRow base e size v n xs :=
  h.kept hg (by
    cases hv : v.ownBlock with
    | none => exact .inl rfl
    | some g =>
      right
      have := (h.lt g hv).1
      intro e
      simp only [Option.some.injEq] at e
      omega)
theorem grown_append {a b c : World} {L : Nat} {r : Option Nat} (h : a.grownBy b (some L)) (k : b.grownBy c r) (hr : ∀ g, r = some g → a.heap.size ≤ g) : a.grownBy c (some L) :=
  ⟨k.os.trans h.os, k.tape.trans h.tape, k.output.trans h.output, Nat.le_trans h.size k.size, fun i hi hne => (k.block i (Nat.lt_of_lt_of_le hi h.size) (by
    intro e
    have := hr i e.symm
    omega)).trans (h.block i hi hne)⟩
theorem info_partsS {P : Program} {t : TypeId} {z : Option Value} {n m : Nat} (h : (P.info? t).map (fun i => (i.zero, i.size, i.bytes)) = some (z, n, m)) : ∃ i, P.info? t = some i ∧ i.zero = z ∧ i.size = n ∧ i.bytes = m := by
  cases hi : P.info? t with
  | none => rw [hi] at h; cases h
  | some i =>
    rw [hi] at h
    simp only [Option.map_some, Option.some.injEq, Prod.mk.injEq] at h
    exact ⟨i, rfl, h.1, h.2.1, h.2.2⟩
theorem wpList_append_runR {P : Program} {ops : Array Oper} {rest : List Oper} {o : Oper} {a : Act} {Q : Exit → Act → World → Prop} {w : World} (hgd : o.guard = none) (s x : Operand) (t : TypeId)
    (ho : o.op = .call { callee := .builtin .append, args := #[s, x], argTypes := #[t, t] }) (sv xv rv : Value) (w' : World) (hs : a.eval s = sv) (hx : a.eval x = xv)
    (hr : (Builtin.append_ #[t, t] o.type #[sv, xv]).run P w = .ok rv w') (h : wpList P ops Q rest (a.put o.dst rv) w') : wpList P ops Q (o :: rest) a w := by
  refine wpList_plain hgd fun K hK => ?_
  unfold Oper.wp execOp
  simp only [ho, resolve, invoke, builtin, Sem.run_bind, Sem.run_pure, Result.andThen_ok, List.map_toArray, List.map_cons, List.map_nil, hs, hx, hr]
  exact hK _ _ h
theorem grown_keeps {w w' : World} {L N : Nat} {o : Option Obj} (h : w.heap[N]? = o) (hN : N < w.heap.size) (hg : w.grownBy w' (some L)) (hne : N ≠ L) : w'.heap[N]? = o := (hg.block N hN (by intro e; simp only [Option.some.injEq] at e; exact hne e)).trans h

def arC (x : Ar) : List Value := [.string x.nm, .int .i64 x.v.k, .int .i64 x.v.n, .string x.v.t]
def arVs (l : List Ar) : List Value := l.flatMap arC
theorem arVs_snoc (l : List Ar) (x : Ar) : arVs (l ++ [x]) = arVs l ++ [.string x.nm, .int .i64 x.v.k, .int .i64 x.v.n, .string x.v.t] := by
  unfold arVs; rw [List.flatMap_append]; rfl
theorem arVs_one (x : Ar) : arVs [x] = [.string x.nm, .int .i64 x.v.k, .int .i64 x.v.n, .string x.v.t] := rfl
theorem info_arg : ∃ i, Try.prog.info? 81 = some i ∧ i.zero = some (.agg #[.string ⟨#[]⟩, .int .i64 0, .int .i64 0, .string ⟨#[]⟩]) ∧ i.size = 4 ∧ i.bytes = 48 := by
  exact info_partsS (by kernel_rfl)
def diC (x : Di) : List Value := [.bool x.sk, .int .i64 x.v.k, .int .i64 x.v.n, .string x.v.t]
def diVs (l : List Di) : List Value := l.flatMap diC
theorem diVs_snoc (l : List Di) (x : Di) : diVs (l ++ [x]) = diVs l ++ [.bool x.sk, .int .i64 x.v.k, .int .i64 x.v.n, .string x.v.t] := by
  unfold diVs; rw [List.flatMap_append]; rfl
theorem info_dir : ∃ i, Try.prog.info? 86 = some i ∧ i.zero = some (.agg #[.bool false, .int .i64 0, .int .i64 0, .string ⟨#[]⟩]) ∧ i.size = 4 ∧ i.bytes = 40 := by
  exact info_partsS (by kernel_rfl)
theorem owns_same {w w' : World} {base : Nat} {e : TypeId} {size : Nat} {v : Value} {n : Nat} {xs : List Value} (h : w.ownsRow base e size v n xs) (hs : ∀ g, v.ownBlock = some g → w'.heap[g]? = w.heap[g]?) : w'.ownsRow base e size v n xs := by
  refine ⟨h.1, ?_⟩
  rcases h.2 with h0 | ⟨g, cap, cur, rfl, q1, q2, q3⟩
  · exact .inl h0
  · exact .inr ⟨g, cap, cur, rfl, q1, (hs g rfl).trans q2, q3⟩
theorem owns_base {w : World} {base b : Nat} {e : TypeId} {size : Nat} {v : Value} {n : Nat} {xs : List Value} (h : w.ownsRow base e size v n xs) (hs : ∀ g, v.ownBlock = some g → b ≤ g) : w.ownsRow b e size v n xs := by
  refine ⟨h.1, ?_⟩
  rcases h.2 with h0 | ⟨g, cap, cur, rfl, q1, q2, q3⟩
  · exact .inl h0
  · exact .inr ⟨g, cap, cur, rfl, hs g rfl, q2, q3⟩
/-- A value's block. -/
def blk (v : Value) : List Nat := v.ownBlock.toList
theorem blk_mem {v : Value} {g : Nat} (h : g ∈ blk v) : v.ownBlock = some g := by unfold blk at h; simpa using h
theorem mem_blk {v : Value} {g : Nat} (h : v.ownBlock = some g) : g ∈ blk v := by unfold blk; rw [h]; simp
theorem blk_nd (v : Value) : (blk v).Nodup := by unfold blk; cases v.ownBlock <;> simp
/-- Selections' cells, and the blocks of their lists. -/
def KidB (W : World) : Sels → List Value → List Nat → Prop
  | .nil, vs, bs => vs = [] ∧ bs = []
  | .cons h sub rest, vs, bs => ∃ va vd vsub vr ws bk br, vs = [.int .i64 h.k, .string h.al, .string h.nm, va, vd, vsub] ++ vr ∧ bs = (blk va ++ (blk vd ++ (blk vsub ++ bk))) ++ br ∧
      W.ownsRow 0 81 4 va h.args.length (arVs h.args) ∧ W.ownsRow 0 86 4 vd h.dirs.length (diVs h.dirs) ∧ W.ownsRow 0 63 6 vsub sub.len ws ∧ KidB W sub ws bk ∧ KidB W rest vr br
theorem KidB.lt {W : World} : ∀ {l : Sels} {vs : List Value} {bs : List Nat}, KidB W l vs bs → ∀ g ∈ bs, g < W.heap.size
  | .nil, _, _, ⟨_, h⟩, g, hg => by rw [h] at hg; simp at hg
  | .cons h sub rest, _, _, ⟨va, vd, vsub, vr, ws, bk, br, _, hb, o1, o2, o3, k1, k2⟩, g, hg => by
    rw [hb] at hg
    simp only [List.mem_append] at hg
    rcases hg with (hg | hg | hg | hg) | hg
    · exact (World.ownsRow.lt o1 g (blk_mem hg)).2
    · exact (World.ownsRow.lt o2 g (blk_mem hg)).2
    · exact (World.ownsRow.lt o3 g (blk_mem hg)).2
    · exact KidB.lt k1 g hg
    · exact KidB.lt k2 g hg
theorem KidB.keep {W W' : World} : ∀ {l : Sels} {vs : List Value} {bs : List Nat}, KidB W l vs bs → (∀ g ∈ bs, W'.heap[g]? = W.heap[g]?) → KidB W' l vs bs
  | .nil, _, _, h, _ => h
  | .cons h sub rest, _, _, ⟨va, vd, vsub, vr, ws, bk, br, hv, hb, o1, o2, o3, k1, k2⟩, hk => by
    refine ⟨va, vd, vsub, vr, ws, bk, br, hv, hb, owns_same o1 fun g hg => hk g ?_, owns_same o2 fun g hg => hk g ?_, owns_same o3 fun g hg => hk g ?_, KidB.keep k1 fun g hg => hk g ?_, KidB.keep k2 fun g hg => hk g ?_⟩
    all_goals rw [hb]; simp only [List.mem_append]
    · exact .inl (.inl (mem_blk hg))
    · exact .inl (.inr (.inl (mem_blk hg)))
    · exact .inl (.inr (.inr (.inl (mem_blk hg))))
    · exact .inl (.inr (.inr (.inr hg)))
    · exact .inr hg
/-- One selection's lists. -/
structure OneK (base : Nat) (W : World) (h : Hd) (sub : Sels) (va vd vsub : Value) (ws : List Value) (bk : List Nat) : Prop where
  a : W.ownsRow 0 81 4 va h.args.length (arVs h.args)
  d : W.ownsRow 0 86 4 vd h.dirs.length (diVs h.dirs)
  s : W.ownsRow 0 63 6 vsub sub.len ws
  k : KidB W sub ws bk
  nd : (blk va ++ (blk vd ++ (blk vsub ++ bk))).Nodup
  inn : ∀ g ∈ blk va ++ (blk vd ++ (blk vsub ++ bk)), base ≤ g ∧ g < W.heap.size
/-- A row of selections. -/
structure RowK (base : Nat) (W : World) (V : Value) (l : Sels) (ws : List Value) (bk : List Nat) : Prop where
  own : W.ownsRow base 63 6 V l.len ws
  k : KidB W l ws bk
  nd : (blk V ++ bk).Nodup
  inn : ∀ g ∈ bk, base ≤ g ∧ g < W.heap.size
def RowB (base : Nat) (W : World) (V : Value) (l : Sels) : Prop := ∃ ws bk, RowK base W V l ws bk
def OneB (base : Nat) (W : World) (h : Hd) (sub : Sels) (va vd vsub : Value) : Prop := ∃ ws bk, OneK base W h sub va vd vsub ws bk
theorem RowK.all {base : Nat} {W : World} {V : Value} {l : Sels} {ws : List Value} {bk : List Nat} (h : RowK base W V l ws bk) : ∀ g ∈ blk V ++ bk, base ≤ g ∧ g < W.heap.size := fun g hg => by
  rcases List.mem_append.1 hg with hg | hg
  · exact World.ownsRow.lt h.own g (blk_mem hg)
  · exact h.inn g hg
theorem RowK.keep {base : Nat} {W W' : World} {V : Value} {l : Sels} {ws : List Value} {bk : List Nat} (h : RowK base W V l ws bk) (hz : W.heap.size ≤ W'.heap.size) (hk : ∀ g ∈ blk V ++ bk, W'.heap[g]? = W.heap[g]?) : RowK base W' V l ws bk :=
  ⟨owns_same h.own fun g hg => hk g (List.mem_append_left _ (mem_blk hg)), h.k.keep fun g hg => hk g (List.mem_append_right _ hg), h.nd, fun g hg => ⟨(h.inn g hg).1, by have := (h.inn g hg).2; omega⟩⟩
theorem OneK.keep {base : Nat} {W W' : World} {h : Hd} {sub : Sels} {va vd vsub : Value} {ws : List Value} {bk : List Nat} (H : OneK base W h sub va vd vsub ws bk) (hz : W.heap.size ≤ W'.heap.size) (hk : ∀ g ∈ blk va ++ (blk vd ++ (blk vsub ++ bk)), W'.heap[g]? = W.heap[g]?) : OneK base W' h sub va vd vsub ws bk := by
  refine ⟨owns_same H.a fun g hg => hk g ?_, owns_same H.d fun g hg => hk g ?_, owns_same H.s fun g hg => hk g ?_, H.k.keep fun g hg => hk g ?_, H.nd, fun g hg => ⟨(H.inn g hg).1, by have := (H.inn g hg).2; omega⟩⟩
  all_goals simp only [List.mem_append]
  · exact .inl (mem_blk hg)
  · exact .inr (.inl (mem_blk hg))
  · exact .inr (.inr (.inl (mem_blk hg)))
  · exact .inr (.inr (.inr hg))
theorem grown_sameK {W W' : World} {L g : Nat} (h : W.grownBy W' (some L)) (h1 : g < W.heap.size) (h2 : g ≠ L) : W'.heap[g]? = W.heap[g]? := h.block g h1 (by simpa using h2)
theorem RowK.grow {base L : Nat} {W W' : World} {V : Value} {l : Sels} {ws : List Value} {bk : List Nat} (h : RowK base W V l ws bk) (hg : W.grownBy W' (some L)) (hL : L < base) : RowK base W' V l ws bk :=
  h.keep hg.size fun g hm => grown_sameK hg (h.all g hm).2 (by have := (h.all g hm).1; omega)
theorem OneK.grow {base L : Nat} {W W' : World} {h : Hd} {sub : Sels} {va vd vsub : Value} {ws : List Value} {bk : List Nat} (H : OneK base W h sub va vd vsub ws bk) (hg : W.grownBy W' (some L)) (hL : L < base) : OneK base W' h sub va vd vsub ws bk :=
  H.keep hg.size fun g hm => grown_sameK hg (H.inn g hm).2 (by have := (H.inn g hm).1; omega)
theorem RowK.low {base b : Nat} {W : World} {V : Value} {l : Sels} {ws : List Value} {bk : List Nat} (h : RowK base W V l ws bk) (hb : b ≤ base) : RowK b W V l ws bk :=
  ⟨owns_base h.own fun g hg => by have := (World.ownsRow.lt h.own g hg).1; omega, h.k, h.nd, fun g hg => ⟨by have := (h.inn g hg).1; omega, (h.inn g hg).2⟩⟩
theorem RowK.nil (base : Nat) (W : World) : RowK base W (.slice none 0 0) .nil [] [] := ⟨⟨rfl, .inl ⟨rfl, rfl⟩⟩, ⟨rfl, rfl⟩, by simp [blk, Value.ownBlock], fun g hg => by simp at hg⟩
theorem KidB.snoc {W : World} {h : Hd} {sub : Sels} {va vd vsub : Value} {ws : List Value} {bk : List Nat} (a : W.ownsRow 0 81 4 va h.args.length (arVs h.args)) (d : W.ownsRow 0 86 4 vd h.dirs.length (diVs h.dirs)) (s : W.ownsRow 0 63 6 vsub sub.len ws) (k : KidB W sub ws bk) :
    ∀ (pre : List (Hd × Sels)) {vs : List Value} {bs : List Nat}, KidB W (app pre .nil) vs bs → KidB W (app (pre ++ [(h, sub)]) .nil) (vs ++ [.int .i64 h.k, .string h.al, .string h.nm, va, vd, vsub]) (bs ++ (blk va ++ (blk vd ++ (blk vsub ++ bk))))
  | [], vs, bs, ⟨h1, h2⟩ => by
    subst h1; subst h2
    exact ⟨va, vd, vsub, [], ws, bk, [], by simp, by simp, a, d, s, k, rfl, rfl⟩
  | x :: pre, _, _, ⟨va', vd', vsub', vr, ws', bk', br, hv, hb, o1, o2, o3, k1, k2⟩ => by
    subst hv; subst hb
    exact ⟨va', vd', vsub', _, ws', bk', _, List.append_assoc _ _ _, List.append_assoc _ _ _, o1, o2, o3, k1, KidB.snoc a d s k pre k2⟩
/-- A selection more. -/
theorem RowK.push {base L g8 n8 c8 : Nat} {W0 W U W8 : World} {V va vd vsub : Value} {pre : List (Hd × Sels)} {h : Hd} {sub : Sels} {ws ws' : List Value} {bk bk' : List Nat} (R : RowK base W0 V (app pre .nil) ws bk) (G : W0.grownBy W (some L)) (hL : L < base) (hb : base ≤ W0.heap.size)
    (O : OneK W0.heap.size W h sub va vd vsub ws' bk') (BU : Below W.heap.size W U) (gr : U.grownBy W8 V.ownBlock) (hat : V.ownBlock = some g8 ∨ g8 = U.heap.size)
    (ho : W8.ownsRow base 63 6 (.slice (some ⟨g8, 0, none⟩) n8 c8) (app (pre ++ [(h, sub)]) .nil).len (ws ++ [.int .i64 h.k, .string h.al, .string h.nm, va, vd, vsub])) :
    RowK base W8 (.slice (some ⟨g8, 0, none⟩) n8 c8) (app (pre ++ [(h, sub)]) .nil) (ws ++ [.int .i64 h.k, .string h.al, .string h.nm, va, vd, vsub]) (bk ++ (blk va ++ (blk vd ++ (blk vsub ++ bk')))) := by
  have R1 := R.grow G hL
  have hz := BU.size
  have hz8 := gr.size
  have hz0 := G.size
  have kp : ∀ g, g < W.heap.size → V.ownBlock ≠ some g → W8.heap[g]? = W.heap[g]? := fun g h1 h2 => (gr.block g (by omega) (fun e => h2 e.symm)).trans (BU.block g h1)
  have hV : ∀ g, V.ownBlock = some g → g < W0.heap.size := fun g hg => (World.ownsRow.lt R.own g hg).2
  have hnd := List.nodup_append.1 R.nd
  have kid : ∀ g ∈ bk, V.ownBlock ≠ some g := fun g hg e => hnd.2.2 g (mem_blk e) g hg rfl
  have new : ∀ g ∈ blk va ++ (blk vd ++ (blk vsub ++ bk')), V.ownBlock ≠ some g := fun g hg e => by have := hV g e; have := (O.inn g hg).1; omega
  have O8 := O.keep (W' := W8) (by omega) fun g hg => kp g (O.inn g hg).2 (new g hg)
  refine ⟨ho, KidB.snoc O8.a O8.d O8.s O8.k pre (R1.k.keep fun g hg => kp g (R1.inn g hg).2 (kid g hg)), ?_, fun g hg => ?_⟩
  · have e : blk (.slice (some ⟨g8, 0, none⟩) n8 c8) = [g8] := rfl
    rw [e, List.nodup_append]
    refine ⟨by simp, ?_, fun x hx y hy e => ?_⟩
    · rw [List.nodup_append]
      refine ⟨hnd.2.1, O.nd, fun x hx y hy e => ?_⟩
      subst e
      have := (R.inn x hx).2
      have := (O.inn x hy).1
      omega
    · subst e
      simp only [List.mem_singleton] at hx
      subst hx
      rcases List.mem_append.1 hy with hy | hy
      · rcases hat with hat | hat
        · exact kid x hy hat
        · have := (R1.inn x hy).2; omega
      · rcases hat with hat | hat
        · exact new x hy hat
        · have := (O.inn x hy).2; omega
  · rcases List.mem_append.1 hg with hg | hg
    · have := R1.inn g hg; exact ⟨this.1, by omega⟩
    · have := O.inn g hg; exact ⟨by omega, by omega⟩
/-- The first selection of a row. -/
theorem RowK.first {base : Nat} {W : World} {h : Hd} {sub : Sels} {va vd vsub : Value} {ws : List Value} {bk : List Nat} (O : OneK base W h sub va vd vsub ws bk) (hb : base ≤ W.heap.size) :
    RowK base (W.alloc (.cells #[.int .i64 h.k, .string h.al, .string h.nm, va, vd, vsub] 63)) (.slice (some ⟨W.heap.size, 0, none⟩) 1 1) (app [(h, sub)] .nil) [.int .i64 h.k, .string h.al, .string h.nm, va, vd, vsub] (blk va ++ (blk vd ++ (blk vsub ++ bk))) := by
  have hB : Below W.heap.size W (W.alloc (.cells #[.int .i64 h.k, .string h.al, .string h.nm, va, vd, vsub] 63)) := (Below.refl _ _).alloc (Nat.le_refl _) _
  have O8 := O.keep hB.size fun g hg => hB.block g (O.inn g hg).2
  refine ⟨⟨rfl, .inr ⟨W.heap.size, 1, _, rfl, hb, heap_alloc_new _ _, Nat.le_refl _, by unfold maxLen; omega, rfl, rfl⟩⟩, ?_, ?_, fun g hg => O8.inn g hg⟩
  · have := KidB.snoc O8.a O8.d O8.s O8.k [] (vs := []) (bs := []) ⟨rfl, rfl⟩
    simpa using this
  · have e : blk (.slice (some ⟨W.heap.size, 0, none⟩) 1 1) = [W.heap.size] := rfl
    rw [e, List.nodup_append]
    refine ⟨by simp, O.nd, fun x hx y hy e => ?_⟩
    subst e
    simp only [List.mem_singleton] at hx
    have := (O.inn x hy).2
    omega
theorem info_selS : ∃ i, Try.prog.info? 63 = some i ∧ i.zero = some (.agg #[.int .i64 0, .string ⟨#[]⟩, .string ⟨#[]⟩, .slice none 0 0, .slice none 0 0, .slice none 0 0]) ∧ i.size = 6 ∧ i.bytes = 112 := by
  exact info_partsS (by kernel_rfl)
theorem own_made {w V : World} {base size : Nat} {e : TypeId} (hV : V = w.alloc (.cells #[] e)) (hb : base ≤ w.heap.size) : V.ownsRow base e size (.slice (some ⟨w.heap.size, 0, none⟩) 0 0) 0 [] := by
  subst hV; exact World.ownsRow_made w #[] 0 hb (Nat.zero_le _) (by simp)
theorem OneK.gen {base la ha ld hd ls hs : Nat} {W : World} {h : Hd} {sub : Sels} {va vd vs : Value} {ws : List Value} {bk : List Nat} (a : W.ownsRow 0 81 4 va h.args.length (arVs h.args)) (d : W.ownsRow 0 86 4 vd h.dirs.length (diVs h.dirs)) (s : W.ownsRow 0 63 6 vs sub.len ws) (k : KidB W sub ws bk) (nd : (blk vs ++ bk).Nodup)
    (ia : ∀ g ∈ blk va, la ≤ g ∧ g < ha) (id : ∀ g ∈ blk vd, ld ≤ g ∧ g < hd) (is : ∀ g ∈ blk vs ++ bk, ls ≤ g ∧ g < hs) (x1 : ha ≤ ld ∨ hd ≤ la) (x2 : ha ≤ ls ∨ hs ≤ la) (x3 : hd ≤ ls ∨ hs ≤ ld) (y1 : base ≤ la) (y2 : base ≤ ld) (y3 : base ≤ ls) (z1 : ha ≤ W.heap.size) (z2 : hd ≤ W.heap.size) (z3 : hs ≤ W.heap.size) : OneK base W h sub va vd vs ws bk := by
  refine ⟨a, d, s, k, ?_, fun g hg => ?_⟩
  · rw [List.nodup_append]
    refine ⟨blk_nd _, ?_, fun x hx y hy e => ?_⟩
    · rw [List.nodup_append]
      refine ⟨blk_nd _, nd, fun x hx y hy e => ?_⟩
      subst e
      have := id x hx
      have := is x hy
      omega
    · subst e
      have := ia x hx
      rcases List.mem_append.1 hy with hy | hy
      · have := id x hy; omega
      · have := is x hy; omega
  · rcases List.mem_append.1 hg with hg | hg
    · have := ia g hg; omega
    · rcases List.mem_append.1 hg with hg | hg
      · have := id g hg; omega
      · have := is g hg; omega
theorem own_far {W : World} {base N k size n : Nat} {e : TypeId} {v x : Value} {xs : List Value} (h : W.ownsRow base e size v n xs) (hN : N < base) : (W.setCell ⟨N, k, none⟩ x).ownsRow base e size v n xs :=
  own_grown h (grown_set (grown_refl W (some N)) k x) hN
theorem RowK.far {W : World} {base N k : Nat} {V x : Value} {s : Sels} {ws : List Value} {bk : List Nat} (h : RowK base W V s ws bk) (hN : N < base) : RowK base (W.setCell ⟨N, k, none⟩ x) V s ws bk :=
  h.grow (grown_set (grown_refl W (some N)) k x) hN
theorem OneK.low {base b : Nat} {W : World} {h : Hd} {sub : Sels} {va vd vs : Value} {ws : List Value} {bk : List Nat} (O : OneK base W h sub va vd vs ws bk) (hb : b ≤ base) : OneK b W h sub va vd vs ws bk :=
  ⟨O.a, O.d, O.s, O.k, O.nd, fun g hg => ⟨by have := (O.inn g hg).1; omega, (O.inn g hg).2⟩⟩
theorem RowK.made {w V : World} (hV : V = w.alloc (.cells #[] 63)) : RowK w.heap.size V (.slice (some ⟨w.heap.size, 0, none⟩) 0 0) .nil [] [] :=
  ⟨own_made hV (Nat.le_refl _), ⟨rfl, rfl⟩, by rw [List.append_nil]; exact blk_nd _, fun g hg => by simp at hg⟩
theorem owns_slice {W : World} {base z n : Nat} {e : TypeId} {v : Value} {xs : List Value} (ho : W.ownsRow base e z v n xs) : ∃ a c, v = .slice a n c := by
  rcases ho.2 with ⟨rfl, rfl⟩ | ⟨g, cap, cur, rfl, _⟩
  · exact ⟨_, _, rfl⟩
  · exact ⟨_, _, rfl⟩
theorem owns_len {W : World} {base z n : Nat} {e : TypeId} {v : Value} {xs : List Value} (ho : W.ownsRow base e z v n xs) : xs.length = n * z := ho.1
theorem KidB.len {W : World} : ∀ {l : Sels} {vs : List Value} {bs : List Nat}, KidB W l vs bs → vs.length = l.len * 6
  | .nil, _, _, ⟨h, _⟩ => by rw [h]; rfl
  | .cons h sub rest, _, _, ⟨va, vd, vsub, vr, ws, bk, br, hv, _, _, _, _, _, k2⟩ => by
    rw [hv, List.length_append, KidB.len k2]
    simp only [Sels.len, List.length_cons, List.length_nil]
    omega
/-- Rows of their own are rows that can be read. -/
theorem flat_at {α : Type} {f : α → List Value} {z : Nat} (hz : ∀ x, (f x).length = z) : ∀ (l : List α) (i : Nat) (x : α), l[i]? = some x → ∀ j, j < z → (l.flatMap f)[i * z + j]? = (f x)[j]?
  | [], i, x, h, _, _ => by simp at h
  | y :: l, 0, x, h, j, hj => by
    simp only [List.getElem?_cons_zero, Option.some.injEq] at h
    subst h
    rw [List.flatMap_cons, Nat.zero_mul, Nat.zero_add, List.getElem?_append_left (by rw [hz]; exact hj)]
  | y :: l, i + 1, x, h, j, hj => by
    rw [List.getElem?_cons_succ] at h
    rw [List.flatMap_cons, List.getElem?_append_right (by rw [hz, Nat.succ_mul]; omega), hz, show (i + 1) * z + j - z = i * z + j by rw [Nat.succ_mul]; omega]
    exact flat_at hz l i x h j hj
end Go.Proofs.Ytajjaddlalbnmaa
