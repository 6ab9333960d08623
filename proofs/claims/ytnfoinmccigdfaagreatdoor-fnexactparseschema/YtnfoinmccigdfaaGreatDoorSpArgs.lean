/- The program's reader of schemas: the arguments of a field. -/
import Derived.Test.YtnfoinmccigdfaaGreatDoorSpImpl
import Derived.Deep.AppendLies
namespace Go.Proofs.YtnfoinmccigdfaaGreatDoor
open Go.ChangeShapes Go.WideShapes Go.ChangeAt Go.RowKit
set_option linter.unusedVariables false

theorem info_partsS {P : Program} {t : TypeId} {z : Option Value} {n m : Nat} (h : (P.info? t).map (fun i => (i.zero, i.size, i.bytes)) = some (z, n, m)) : ∃ i, P.info? t = some i ∧ i.zero = z ∧ i.size = n ∧ i.bytes = m := by
  cases hi : P.info? t with
  | none => rw [hi] at h; cases h
  | some i =>
    rw [hi] at h
    simp only [Option.map_some, Option.some.injEq, Prod.mk.injEq] at h
    exact ⟨i, rfl, h.1, h.2.1, h.2.2⟩
theorem wpList_append_runR {P : Program} {ops : Array Oper} {rest : List Oper} {o : Oper} {a : Act} {Q : Exit → Act → World → Prop} {w : World} (hgd : o.guard = none) (s x : Operand) (t : TypeId)
    (ho : o.op = .call { callee := .builtin .append, args := #[s, x], argTypes := #[t, t] }) (sv xv rv : Value) (w' : World) (hs : a.eval s = sv) (hx : a.eval x = xv)
    (hr : (Builtin.append_ #[t, t] o.type #[sv, xv]).run P w = .ok rv w') (h : wpList P ops Q rest (a.put o.dst rv) w') : wpList P ops Q (o :: rest) a w := by
  refine wpList_plain hgd fun K hK => ?_
  unfold Oper.wp execOp
  simp only [ho, resolve, invoke, builtin, Sem.run_bind, Sem.run_pure, Result.andThen_ok, List.map_toArray, List.map_cons, List.map_nil, hs, hx, hr]
  exact hK _ _ h
/-- Many of a kind up to a mark. -/
inductive Many {α : Type} (st : Nat → Bool) (one : Nat → Option (α × Nat) → Prop) : Nat → Option (List α × Nat) → Prop
  | stop {i : Nat} : st i = true → Many st one i (some ([], i + 1))
  | bad {i : Nat} : st i = false → one i none → Many st one i none
  | next {i j : Nat} {x : α} : st i = false → one i (some (x, j)) → Many st one j none → Many st one i none
  | more {i j k : Nat} {x : α} {xs : List α} : st i = false → one i (some (x, j)) → Many st one j (some (xs, k)) → Many st one i (some (x :: xs, k))
theorem Many.det {α : Type} {st : Nat → Bool} {one : Nat → Option (α × Nat) → Prop} (hd : ∀ i r r', one i r → one i r' → r = r') {i : Nat} {r : Option (List α × Nat)} (h : Many st one i r) : ∀ {r' : Option (List α × Nat)}, Many st one i r' → r = r' := by
  induction h with
  | stop h1 => intro r' h'; cases h' with
    | stop _ => rfl
    | bad h2 _ => rw [h1] at h2; cases h2
    | next h2 _ _ => rw [h1] at h2; cases h2
    | more h2 _ _ => rw [h1] at h2; cases h2
  | bad h1 h2 => intro r' h'; cases h' with
    | stop h3 => rw [h1] at h3; cases h3
    | bad _ _ => rfl
    | next _ _ _ => rfl
    | more _ h3 _ => cases hd _ _ _ h2 h3
  | next h1 h2 h3 ih => intro r' h'; cases h' with
    | stop h4 => rw [h1] at h4; cases h4
    | bad _ _ => rfl
    | next _ _ _ => rfl
    | more _ h4 h5 =>
      cases hd _ _ _ h2 h4
      cases ih h5
  | more h1 h2 h3 ih => intro r' h'; cases h' with
    | stop h4 => rw [h1] at h4; cases h4
    | bad _ h4 => cases hd _ _ _ h2 h4
    | next _ h4 h5 =>
      cases hd _ _ _ h2 h4
      cases ih h5
    | more _ h4 h5 =>
      cases hd _ _ _ h2 h4
      cases ih h5
      rfl
/-- What is ahead of what is read. -/
def ahead {α : Type} (g : List α) : Option (List α × Nat) → Option (List α × Nat)
  | none => none
  | some (xs, k) => some (g ++ xs, k)
theorem Many.step {α : Type} {st : Nat → Bool} {one : Nat → Option (α × Nat) → Prop} {i j : Nat} {x : α} (h1 : st i = false) (h2 : one i (some (x, j))) {r : Option (List α × Nat)} (h3 : Many st one j r) : Many st one i (ahead [x] r) := by
  cases r with
  | none => exact .next h1 h2 h3
  | some p => obtain ⟨xs, k⟩ := p; exact .more h1 h2 h3
theorem ahead_ahead {α : Type} (g : List α) (x : α) (r : Option (List α × Nat)) : ahead g (ahead [x] r) = ahead (g ++ [x]) r := by
  cases r with
  | none => rfl
  | some p => obtain ⟨xs, k⟩ := p; simp [ahead]
def rpar (l : List Tk) (i : Nat) : Bool := tkE (nxT l i) ⟨4, 0, ⟨#[41]⟩⟩
def agOne (l : List Tk) (i : Nat) (r : Option (G.Ag × Nat)) : Prop := r = pAg l i
/-- Arguments behind the mark that opens them: one at least. -/
def AgsR (l : List Tk) (i : Nat) (r : Option (List G.Ag × Nat)) : Prop := (pAg l i = none ∧ r = none) ∨ ∃ x j r', pAg l i = some (x, j) ∧ Many (rpar l) (agOne l) j r' ∧ r = ahead [x] r'
theorem AgsR.det {l : List Tk} {i : Nat} {r r' : Option (List G.Ag × Nat)} (h : AgsR l i r) (h' : AgsR l i r') : r = r' := by
  rcases h with ⟨h1, rfl⟩ | ⟨x, j, q, h1, h2, rfl⟩ <;> rcases h' with ⟨g1, rfl⟩ | ⟨x', j', q', g1, g2, rfl⟩
  · rfl
  · rw [h1] at g1; cases g1
  · rw [h1] at g1; cases g1
  · rw [h1] at g1
    cases g1
    rw [h2.det (fun i r r' h h' => h.trans h'.symm) g2]
def rdPos (w : World) (L : Nat) : Nat := match w.cell? ⟨L, 1, none⟩ with
  | some (.int _ n) => n.toNat
  | _ => 0
theorem rdPos_of {T : TypeId} {ex : Array Value} {w : World} {L c i : Nat} {a : Option Addr} {l : List Tk} (h : RdSt T ex w L a c l i) : rdPos w L = i := by unfold rdPos; rw [h.c1]; simp
theorem pAg_up {l : List Tk} {i j : Nat} {x : G.Ag} (h : pAg l i = some (x, j)) : i < j := by
  unfold pAg at h
  split at h
  · cases h
  · split at h
    · cases h
    · split at h
      · cases h
      · simp only [Option.some.injEq, Prod.mk.injEq] at h
        rw [← h.2]; unfold adv; split <;> omega
/-- Arguments' cells. -/
def agVs : List G.Ag → List Value
  | [] => []
  | x :: l => .string x.nm :: .bool x.need :: agVs l
theorem agVs_snoc : ∀ (l : List G.Ag) (x : G.Ag), agVs (l ++ [x]) = agVs l ++ [.string x.nm, .bool x.need]
  | [], x => rfl
  | y :: l, x => by simp [agVs, agVs_snoc l x]
theorem info_agd : ∃ i, Tryz.prog.info? 79 = some i ∧ i.zero = some (.agg #[.string ⟨#[]⟩, .bool false]) ∧ i.size = 2 ∧ i.bytes = 24 := by
  exact info_partsS (by kernel_rfl)
/-- A list of arguments is told, a row of its own. -/
def AgsIs (ex : Array Value) (L : Nat) (a : Option Addr) (c : Nat) (l : List Tk) (i : Nat) (w : World) (e : Ending) (w' : World) : Prop :=
  (∃ r, AgsR l i r ∧ ((∃ xs j a' c', r = some (xs, j) ∧ e = .returned (.slice a' xs.length c') ∧ w'.ownsRow w.heap.size 79 2 (.slice a' xs.length c') xs.length (agVs xs) ∧ RdSt 37 ex w' L a c l j) ∨ (r = none ∧ badF e))) ∧ w.grownBy w' (some L)
set_option maxHeartbeats 4000000 in
theorem sp_argDefs (ex : Array Value) (L c i : Nat) (a : Option Addr) (l : List Tk) (w : World) (h : RdSt 37 ex w L a c l i) (hl : l.length ≤ 1048576) :
    Calls Tryz.prog 74 #[.pointer (some ⟨L, 0, none⟩)] w (AgsIs ex L a c l i w) := by
  have HQ : Hid _ := sp_argDef ex L c i a l w h hl
  have hLw := h.lt
  clear h
  go_enter Tryz.func74, Tryz.ntmps74
  go_wp2_with fail
  refine Calls.mono HQ.out ?_
  rintro e w1 ⟨⟨x, j, hx, rfl, s1⟩ | ⟨hx, rfl⟩, g1⟩
  case inr =>
    have HE : Hid (AgsR l i none) := .inl ⟨hx, rfl⟩
    have G1 : Hid _ := g1
    clear g1 HQ hx
    go_wp2_with fail
    exact ⟨rfl, ⟨none, HE.out, .inr ⟨rfl, rfl⟩⟩, G1.out⟩
  unfold agV
  obtain ⟨U, hU⟩ : ∃ U, U = w1.alloc (.cells #[.string x.nm, .bool x.need] 79) := ⟨_, rfl⟩
  have BU : Below w1.heap.size w1 U := by rw [hU]; exact (Below.refl _ _).alloc (Nat.le_refl _) _
  have SU : Hid (RdSt 37 ex U L a c l j) := s1.below BU
  have GU : Hid (w.grownBy U (some L)) := grown_below g1 BU
  have z1 := g1.size
  have OU : Hid (U.ownsRow w.heap.size 79 2 (.slice (some ⟨w1.heap.size, 0, none⟩) 1 1) 1 (agVs [x])) := by
    rw [Hid, hU]
    exact ⟨rfl, .inr ⟨w1.heap.size, 1, _, rfl, z1, heap_alloc_new _ _, Nat.le_refl _, by unfold maxLen; omega, rfl, rfl⟩⟩
  have HT : Hid (∀ r, Many (rpar l) (agOne l) j r → AgsR l i (ahead [x] r)) := fun r hr => .inr ⟨x, j, r, hx, hr, rfl⟩
  have hj := s1.le
  have HJ1 : Hid (1 ≤ j) := by have := pAg_up hx; unfold Hid; omega
  clear hx s1 g1 HQ BU
  go_wp2_with fail
  rw [← hU]
  clear hU
  go_loopw [3] (fun v w' => ∃ (k : Nat) (g : List G.Ag) (a' : Option Addr) (c' : Nat), v = .slice a' g.length c' ∧ g.length ≤ k ∧ k ≤ l.length ∧ Hid (RdSt 37 ex w' L a c l k) ∧ Hid (w.grownBy w' (some L)) ∧ Hid (w'.ownsRow w.heap.size 79 2 (.slice a' g.length c') g.length (agVs g)) ∧ Hid (∀ r, Many (rpar l) (agOne l) k r → AgsR l i (ahead g r))) (fun _ w' => l.length - rdPos w' L)
  case atStart => exact ⟨j, [x], _, 1, rfl, HJ1.out, hj, SU, GU, OU, HT⟩
  case round =>
    obtain ⟨k, g, a', c', rfl, hgk, hk, HS, HG, HO, HM⟩ := hrel
    obtain ⟨wo, rfl⟩ : ∃ z, z = wr := ⟨_, rfl⟩
    have HQ : Hid _ := rd_passes 37 ex L c k a l ⟨#[41]⟩ wo HS.out hl
    have HPO : Hid (rdPos wo L = k) := rdPos_of HS.out
    obtain ⟨r, HR⟩ : ∃ r, Hid (r = tkE (nxT l k) ⟨4, 0, ⟨#[41]⟩⟩) := ⟨_, rfl⟩
    rw [← HR.out] at HQ
    go_wp2_with fail
    refine Calls.mono HQ.out ?_
    rintro e w2 ⟨rfl, s2, g2⟩
    have HS2 : Hid _ := s2
    have G2 : Hid (w.grownBy w2 (some L)) := grown_trans HG.out g2
    have O2 : Hid (w2.ownsRow w.heap.size 79 2 (.slice a' g.length c') g.length (agVs g)) := own_grown HO.out g2 hLw
    clear s2 g2 HQ HS HG HO
    cases r with
    | true =>
      have HE : Hid (AgsR l i (some (g, k + 1))) := by
        have := HM.out _ (.stop HR.out.symm)
        simp only [ahead, List.append_nil] at this
        exact this
      clear HM HR
      go_wp2_with fail
      go_ret
      exact ⟨⟨_, HE.out, .inl ⟨g, k + 1, a', c', rfl, rfl, O2.out, HS2.out⟩⟩, G2.out⟩
    | false =>
      have HQ2 : Hid _ := sp_argDef ex L c k a l w2 HS2.out hl
      go_wp2_with fail
      refine Calls.mono HQ2.out ?_
      rintro e w3 ⟨⟨y, q, hy, rfl, s3⟩ | ⟨hy, rfl⟩, g3⟩
      case inr =>
        have HE : Hid (AgsR l i none) := HM.out _ (.bad HR.out.symm hy.symm)
        have G3 : Hid (w.grownBy w3 (some L)) := grown_trans G2.out g3
        clear g3 HQ2 hy HM HR
        go_wp2_with fail
        exact ⟨rfl, ⟨none, HE.out, .inr ⟨rfl, rfl⟩⟩, G3.out⟩
      have hkq := pAg_up hy
      have hq := s3.le
      have HM2 : Hid (∀ r, Many (rpar l) (agOne l) q r → AgsR l i (ahead (g ++ [y]) r)) := fun r hr => by
        have := HM.out _ (Many.step HR.out.symm (show agOne l k (some (y, q)) from hy.symm) hr)
        rwa [ahead_ahead] at this
      unfold agV
      obtain ⟨U, hU⟩ : ∃ U, U = w3.alloc (.cells #[.string y.nm, .bool y.need] 79) := ⟨_, rfl⟩
      have BU : Below w3.heap.size w3 U := by rw [hU]; exact (Below.refl _ _).alloc (Nat.le_refl _) _
      have cU : U.heap[w3.heap.size]? = some (.cells #[.string y.nm, .bool y.need] 79 (0, 0)) := by rw [hU]; exact heap_alloc_new _ _
      have G3 : Hid (w.grownBy U (some L)) := grown_below (grown_trans G2.out g3) BU
      have SU : Hid (RdSt 37 ex U L a c l q) := s3.below BU
      have O3 : U.ownsRow w.heap.size 79 2 (.slice a' g.length c') g.length (agVs g) := by rw [hU]; exact (own_grown O2.out g3 hLw).alloc _
      have z3 := G3.out.size
      obtain ⟨ig, hig, hzg, hsg, hbg⟩ := info_agd
      obtain ⟨g8, cap8, W8, hrun, o8, gr8, hat8, hlt8⟩ := run_append_lies (P := Tryz.prog) U 51 51 w.heap.size 79 ig _ 2 24 Tryz.underlying51 hig hzg hsg hbg rfl (by decide) (.slice a' g.length c') g.length (agVs g) O3 ⟨w3.heap.size, 0, none⟩ 1 1 [.string y.nm, .bool y.need] rfl (fun t u ht => by
        rw [add_plain]
        have := row_cell cU (0 + t)
        rw [this, ← ht]
        simp) (fun u hu => by
          simp only [List.mem_cons, List.not_mem_nil, or_false] at hu
          rcases hu with rfl | rfl <;> rfl) (by omega) (by unfold maxLen; omega) (by omega) z3 _ rfl
      have O8 : Hid (W8.ownsRow w.heap.size 79 2 (.slice (some ⟨g8, 0, none⟩) (g ++ [y]).length cap8) (g ++ [y]).length (agVs (g ++ [y]))) := by
        rw [Hid, agVs_snoc, List.length_append]; exact o8
      have hoff : ∀ q, (Value.slice a' g.length c').ownBlock = some q → L < q := fun q hq => by have := (World.ownsRow.lt O3 q hq).1; omega
      have S8 : Hid (RdSt 37 ex W8 L a c l q) := SU.out.keep fun t ht => gr8.block t (by have := SU.out.lt; omega) (fun e => by have := hoff t e.symm; omega)
      have G8 : Hid (w.grownBy W8 (some L)) := grown_append G3.out gr8 (fun t ht => (World.ownsRow.lt O3 t ht).1)
      have HP8 : Hid (rdPos W8 L = q) := rdPos_of S8.out
      have HRUN : Hid _ := hrun
      have HU : Hid (U = _) := hU
      clear hU hrun o8 gr8 hat8 O3 cU BU g3 s3 HQ2 hy HM HR hoff hig hzg hsg hbg
      go_wp2_with (first | (at_builtin; rw [← HU.out]; refine wpList_append_runR rfl _ _ _ rfl _ _ _ _ rfl rfl HRUN.out ?_) | fail)
      exact ⟨⟨q, g ++ [y], some ⟨g8, 0, none⟩, cap8, by simp, by simp; omega, hq, S8, G8, O8, HM2⟩, by rw [HP8.out, HPO.out]; omega⟩
end Go.Proofs.YtnfoinmccigdfaaGreatDoor
