/- CheckTypes: the program's map of types; the type within a selection; spreads. -/
import Derived.Test.YtjkkphfdcoejlaaGreatTySpotTwo
import Derived.Maps.OwnOps
namespace Go.Proofs.YtjkkphfdcoejlaaGreat
open Go.ChangeShapes Go.WideShapes Go.ChangeAt Go.RowKit Go.Maps
set_option linter.unusedVariables false

def hasT (L : List G.Td) (s : ByteArray) : Bool := L.any fun y => y.nm.toList == s.toList
def TdHeld (w0 w : World) (B : Nat) (L : List G.Td) : Prop := ∃ (D : DataW Value) (n : Nat), w.ownsMap Tryz.prog 9 heldE B n D ∧ n ≤ L.length ∧ (∀ s : ByteArray, Maps.has D (.string s.toList) = hasT L s) ∧
  ∀ x ∈ L, ∃ a c, (∀ z, D.atKey (.string x.nm.toList) z = .held (tdV x a c)) ∧ G.FdRow 0 w0.heap.size w0 a x.fs
theorem zeroTd (w : World) : (zeroValue 64).run Tryz.prog w = .ok (tdV td0 none 0) w := by kernel_rfl
theorem TdHeld.lt {w0 w : World} {B : Nat} {L : List G.Td} (h : TdHeld w0 w B L) : B < w.heap.size := by
  obtain ⟨D, n, h, _⟩ := h
  exact h.lt
theorem TdHeld.keep {w0 w w' : World} {B : Nat} {L : List G.Td} (h : TdHeld w0 w B L) (hb : w'.heap[B]? = w.heap[B]?) : TdHeld w0 w' B L := by
  obtain ⟨D, n, ⟨es, clock, h1, h2⟩, h3⟩ := h
  exact ⟨D, n, ⟨es, clock, hb.trans h1, h2⟩, h3⟩
theorem TdHeld.none (w0 w : World) : TdHeld w0 (w.alloc (.map #[] 0)) w.heap.size [] :=
  ⟨.map [], 0, World.ownsMap_made _ _ _ _, Nat.zero_le _, fun s => rfl, fun x h => by simp at h⟩
theorem TdHeld.at_ {w0 w : World} {B : Nat} {L : List G.Td} (h : TdHeld w0 w B L) (s : ByteArray) : ∃ (D : DataW Value) (n : Nat), w.ownsMap Tryz.prog 9 heldE B n D ∧ Maps.has D (.string s.toList) = hasT L s ∧
    ((hasT L s = false ∧ D.atKey (.string s.toList) (.held (tdV td0 .none 0)) = .held (tdV td0 .none 0)) ∨ ∃ x ∈ L, ∃ a c, (x.nm.toList == s.toList) = true ∧ hasT L s = true ∧ D.atKey (.string s.toList) (.held (tdV td0 .none 0)) = .held (tdV x a c) ∧ G.FdRow 0 w0.heap.size w0 a x.fs) := by
  obtain ⟨D, n, h1, _, h3, h4⟩ := h
  refine ⟨D, n, h1, h3 s, ?_⟩
  cases hh : hasT L s with
  | false => exact .inl ⟨rfl, atKey_of_not_has (by rw [h3, hh]) _⟩
  | true =>
    have hc := hh
    unfold hasT at hc
    rw [List.any_eq_true] at hc
    obtain ⟨x, hx, he⟩ := hc
    obtain ⟨a, c, h5, h6⟩ := h4 x hx
    exact .inr ⟨x, hx, a, c, he, rfl, by rw [← beq_iff_eq.1 he]; exact h5 _, h6⟩
theorem wpList_lookup_held1 {P : Program} (w : World) {ops : Array Oper} {rest : List Oper} {o : Oper} {a : Act} {Q : Exit → Act → World → Prop} (hg : o.guard = none) (m x : Operand) (t : TypeId) (hop : o.op = Op.lookup t m x false)
    (k e : TypeId) (K : Keyed P k) (ht : P.underlying t = some (.map k e)) {z : Value} (hz : (zeroValue e).run P w = .ok z w) (b n : Nat) (D : DataW Value)
    (hm : a.eval m = .map (some b)) (hown : w.ownsMap P k heldE b n D) (key : Value) (kl : Lit) (hx : a.eval x = key) (hkey : keyOf P k key = some kl) (u : Value) (hu : D.atKey kl (.held z) = .held u)
    (hK : wpList P ops Q rest (a.put o.dst u) w) : wpList P ops Q (o :: rest) a w := by
  refine wpList_plain hg fun K' hK' => ?_
  obtain ⟨v, ps, hrun, hv⟩ := hown.lookup K ht hz (zd := .held z) (zp := []) rfl hkey
  rw [hu] at hv
  simp only [heldE, Option.some.injEq, Prod.mk.injEq, DataW.held.injEq] at hv
  rw [hv.1] at hrun
  unfold Oper.wp
  simp [execOp, hop, hm, hx, hrun, Result.andThen]
  exact hK' _ _ hK
theorem TdHeld.put {w0 w' : World} {B n : Nat} {L : List G.Td} {x : G.Td} {a : Option Addr} {c : Nat} {D : DataW Value} (hD : IsMap D) (hn : hasT L x.nm = false) (hle : n ≤ L.length)
    (h1 : ∀ s : ByteArray, Maps.has D (.string s.toList) = hasT L s) (h2 : ∀ x ∈ L, ∃ a c, (∀ z, D.atKey (.string x.nm.toList) z = .held (tdV x a c)) ∧ G.FdRow 0 w0.heap.size w0 a x.fs) (hr : G.FdRow 0 w0.heap.size w0 a x.fs)
    (h : w'.ownsMap Tryz.prog 9 heldE B (n + 1) (D.put (.string x.nm.toList) (.held (tdV x a c)))) : TdHeld w0 w' B (L ++ [x]) := by
  refine ⟨_, _, h, by rw [List.length_append]; simpa using hle, fun s => ?_, fun y hy => ?_⟩
  · by_cases hs : (x.nm.toList == s.toList) = true
    · have e : s.toList = x.nm.toList := by simpa using (beq_iff_eq.1 hs).symm
      rw [e, has_put_same (k := .string x.nm.toList) hD trivial]
      unfold hasT; rw [List.any_append]; simp [e]
    · have hs : (x.nm.toList == s.toList) = false := by simpa using hs
      rw [has_put_other (key_ne hs), h1]
      unfold hasT; rw [List.any_append]; simp [hs]
  · rcases List.mem_append.1 hy with hy | hy
    · obtain ⟨a', c', h5, h6⟩ := h2 y hy
      have hne : (x.nm.toList == y.nm.toList) = false := by
        cases hc : (x.nm.toList == y.nm.toList)
        · rfl
        · have : hasT L x.nm = true := by
            unfold hasT; rw [List.any_eq_true]
            exact ⟨y, hy, by rw [beq_iff_eq] at hc; simp [hc]⟩
          rw [hn] at this; cases this
      exact ⟨a', c', fun z => by rw [atKey_put_other (key_ne hne), h5 z], h6⟩
    · simp only [List.mem_singleton] at hy
      subst hy
      exact ⟨a, c, fun z => by rw [atKey_put_same (k := .string y.nm.toList) hD trivial], hr⟩
/-- Types whose names come once are found by them. -/
theorem td_find {S : List G.Td} (h : G.OkN (S.map G.Td.nm)) {x : G.Td} (hx : x ∈ S) {n : ByteArray} (he : (x.nm.toList == n.toList) = true) : tdIn S n = some x := by
  unfold tdIn
  obtain ⟨y, hy⟩ : ∃ y, S.find? (fun t => t.nm.toList == n.toList) = some y := by
    cases hf : S.find? (fun t => t.nm.toList == n.toList) with
    | some y => exact ⟨y, rfl⟩
    | none => rw [List.find?_eq_none] at hf; exact absurd he (hf x hx)
  have hyn := List.find?_some hy
  have hym := List.mem_of_find?_eq_some hy
  obtain ⟨i, hi, rfl⟩ := List.getElem_of_mem hx
  obtain ⟨j, hj, rfl⟩ := List.getElem_of_mem hym
  have key : ∀ i j (hi : i < S.length) (hj : j < S.length), (S[i].nm.toList == n.toList) = true → (S[j].nm.toList == n.toList) = true → ¬ i < j := by
    intro i j hi hj h1 h2 hlt
    have hs := (h j (by simpa using hj)).2
    rw [G.seen_of (k := i) (by simpa using hi) hlt (by rw [beq_iff_eq] at h1 h2; simp [h1, h2])] at hs
    cases hs
  have : i = j := by
    have h1 := key i j hi hj he hyn
    have h2 := key j i hj hi hyn he
    omega
  subst this
  exact hy
theorem td_none {S : List G.Td} {n : ByteArray} (h : hasT S n = false) : tdIn S n = none := by
  unfold tdIn
  rw [List.find?_eq_none]
  intro x hx he
  have : hasT S n = true := List.any_eq_true.2 ⟨x, hx, he⟩
  rw [h] at this; cases this

def tcV (Bt Bf : Nat) (ra : Option Addr) (rn rc : Nat) : Value := .agg #[.map (some Bt), .map (some Bf), .slice ra rn rc]
def tdU (S : List G.Td) (n : ByteArray) : G.Td := (tdIn S n).getD td0
def inU (S : List G.Td) (t : G.Td) (h : Hd) (f : G.Fd) : G.Td := if (h.k == 1) = true then tdU S f.ty else t
set_option maxHeartbeats 4000000 in
set_option maxRecDepth 40000 in
theorem type_within (h : Hd) (n : Nat) (a1 a2 a3 at_ af : Option Addr) (c1 c2 c3 ct cf : Nat) (t : G.Td) (f : G.Fd) (kn : Bool) (Bt Bf : Nat) (ra : Option Addr) (rn rc : Nat) (S : List G.Td) (w0 w : World) (hO : G.OkN (S.map G.Td.nm)) (hT : TdHeld w0 w Bt S) (hW : Below w0.heap.size w0 w) (hf : f.ty.size ≤ maxLen)
    (hr : G.FdRow 0 w.heap.size w at_ t.fs) :
    Calls Tryz.prog 70 #[tcV Bt Bf ra rn rc, spV h n a1 c1 a2 c2 a3 c3 t at_ ct f af cf kn] w fun e w' => (∃ t' a' c', e = .returned (tdV t' a' c') ∧ t' = inU S t h f ∧ G.FdRow 0 w.heap.size w a' t'.fs) ∧ Below w.heap.size w w' := by
  unfold tcV spV
  cases hk : (h.k == 1) with
  | false =>
    have HN : Hid (∃ t' a' c', Ending.returned (tdV t at_ ct) = .returned (tdV t' a' c') ∧ t' = inU S t h f ∧ G.FdRow 0 w.heap.size w a' t'.fs) := ⟨t, at_, ct, rfl, by unfold inU; rw [hk]; rfl, hr⟩
    clear hr hT
    go_enter Tryz.func70, Tryz.ntmps70
    go_wp2_with fail
    refine bodyPost_ret (v := tdV t at_ ct) (by simp [results, Tryz.results70, go_sem, tdV]) rfl ⟨HN.out, ?_⟩
    repeat (first | exact Below.refl _ _ | refine Below.setCell ?_ (by first | omega | (simp <;> omega)) _ | refine Below.alloc ?_ (by first | omega | (simp <;> omega)) _)
  | true =>
    obtain ⟨D, m, hown, hh, hat⟩ := hT.at_ f.ty
    have hkey := key_of hf
    obtain ⟨t', a', c', hu, ht', hr'⟩ : ∃ t' a' c', D.atKey (.string f.ty.toList) (.held (tdV td0 .none 0)) = .held (tdV t' a' c') ∧ t' = tdU S f.ty ∧ G.FdRow 0 w.heap.size w a' t'.fs := by
      rcases hat with ⟨h1, h2⟩ | ⟨x, hx, a, c, h1, _, h2, h3⟩
      · exact ⟨td0, .none, 0, h2, by unfold tdU; rw [td_none h1]; rfl, .inl rfl⟩
      · exact ⟨x, a, c, h2, by unfold tdU; rw [td_find hO hx h1]; rfl, G.FdRow.wide (G.FdRow.keep h3 (G.agree hW (Nat.le_refl _))) (Nat.le_refl _) hW.size⟩
    have HN : Hid (∃ t'' a'' c'', Ending.returned (tdV t' a' c') = .returned (tdV t'' a'' c'') ∧ t'' = inU S t h f ∧ G.FdRow 0 w.heap.size w a'' t''.fs) := ⟨t', a', c', rfl, by unfold inU; rw [hk]; exact ht', hr'⟩
    have hlt := hT.lt
    clear hr hT hat ht' hr' hh
    unfold tdV at hu
    go_enter Tryz.func70, Tryz.ntmps70
    go_wp2_with (first
      | (at_lookup; refine wpList_lookup_held1 _ rfl _ _ 92 rfl 9 64 law9 Tryz.underlying92 (zeroTd _) Bt m D rfl (((hown.alloc _).alloc _).alloc _) _ _ rfl hkey _ hu ?_)
      | go_in)
    refine bodyPost_ret (v := tdV t' a' c') (by simp [results, Tryz.results70, go_sem, tdV]) rfl ⟨HN.out, ?_⟩
    repeat (first | exact Below.refl _ _ | refine Below.setCell ?_ (by first | omega | (simp <;> omega)) _ | refine Below.alloc ?_ (by first | omega | (simp <;> omega)) _)

set_option maxHeartbeats 4000000 in
set_option maxRecDepth 40000 in
theorem rule_spread (h : Hd) (n : Nat) (a1 a2 a3 at_ af : Option Addr) (c1 c2 c3 ct cf : Nat) (t : G.Td) (f : G.Fd) (kn : Bool) (Bt Bf : Nat) (ra : Option Addr) (rn rc : Nat) (D : List De) (w0 w : World) (hT : FrHeld w0 w Bf (frsOf D)) (hs : h.nm.size ≤ maxLen) (r : Int) (hr : r = if ((h.k == 2) && !frOK D h.nm t.nm) = true then 12 else 0) :
    Calls Tryz.prog 63 #[tcV Bt Bf ra rn rc, spV h n a1 c1 a2 c2 a3 c3 t at_ ct f af cf kn] w fun e w' => e = .returned (.int .i64 r) ∧ Below w.heap.size w w' := by
  unfold tcV spV
  cases hk : (h.k == 2) with
  | false =>
    have HN : Hid ((0 : Int) = r) := by rw [Hid, hr, hk]; rfl
    clear hr hT
    go_enter Tryz.func63, Tryz.ntmps63
    go_wp2_with fail
    go_ret
    exact ⟨ret_i HN.out, by repeat (first | exact Below.refl _ _ | refine Below.setCell ?_ (by first | omega | (simp <;> omega)) _ | refine Below.alloc ?_ (by first | omega | (simp <;> omega)) _)⟩
  | true =>
    obtain ⟨E, m, hown, hh, hat⟩ := hT.at_ h.nm
    have hkey := key_of hs
    obtain ⟨x, a, c, b, hu, hb, hx⟩ : ∃ x a c b, E.atKey (.string h.nm.toList) (.held (deV de0 .none 0)) = .held (deV x a c) ∧ Maps.has E (.string h.nm.toList) = b ∧ ((b = false ∧ D.find? (isFr h.nm) = none) ∨ (b = true ∧ D.find? (isFr h.nm) = some x)) := by
      rcases hat with ⟨h1, h2⟩ | ⟨x, hx, a, c, h1, h3, h2, _⟩
      · exact ⟨de0, .none, 0, false, h2, by rw [hh, h1], .inl ⟨rfl, frs_none h1⟩⟩
      · exact ⟨x, a, c, true, h2, by rw [hh, h3], .inr ⟨rfl, by rw [← isFr_same h1]; exact frs_find D x hx⟩⟩
    clear hT hat hh
    unfold deV at hu
    cases b with
    | false =>
      have HN : Hid ((12 : Int) = r) := by
        rcases hx with ⟨_, hx⟩ | ⟨hx, _⟩
        · rw [Hid, hr, hk]; unfold frOK; rw [hx]; rfl
        · cases hx
      clear hr hx
      go_enter Tryz.func63, Tryz.ntmps63
      go_wp2_with (first
        | (at_lookup; refine wpList_lookup_held _ rfl _ _ 94 rfl 9 75 law9 Tryz.underlying94 (zeroDef _) Bf m E rfl ((hown.alloc _).alloc _) _ _ rfl hkey _ hu false hb ?_)
        | go_in)
      go_ret
      exact ⟨ret_i HN.out, by repeat (first | exact Below.refl _ _ | refine Below.setCell ?_ (by first | omega | (simp <;> omega)) _ | refine Below.alloc ?_ (by first | omega | (simp <;> omega)) _)⟩
    | true =>
      cases he : (x.on.toList == t.nm.toList)
      all_goals
        have HN : Hid ((if (x.on.toList == t.nm.toList) = true then (0 : Int) else 12) = r) := by
          rcases hx with ⟨hx, _⟩ | ⟨_, hx⟩
          · cases hx
          · rw [Hid, hr, hk]; unfold frOK; rw [hx]; simp only [he]; rfl
        rw [he] at HN
        clear hr hx
        go_enter Tryz.func63, Tryz.ntmps63
        go_wp2_with (first
          | (at_lookup; refine wpList_lookup_held _ rfl _ _ 94 rfl 9 75 law9 Tryz.underlying94 (zeroDef _) Bf m E rfl ((hown.alloc _).alloc _) _ _ rfl hkey _ hu true hb ?_)
          | go_in)
        go_ret
        exact ⟨ret_i HN.out, by repeat (first | exact Below.refl _ _ | refine Below.setCell ?_ (by first | omega | (simp <;> omega)) _ | refine Below.alloc ?_ (by first | omega | (simp <;> omega)) _)⟩
end Go.Proofs.YtjkkphfdcoejlaaGreat
