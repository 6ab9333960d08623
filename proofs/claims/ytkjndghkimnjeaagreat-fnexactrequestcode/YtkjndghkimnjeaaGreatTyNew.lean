/- CheckTypes: the types by their names; the program's checker, made. -/
import Derived.Test.YtkjndghkimnjeaaGreatTySpot
import Derived.Maps.OwnOps
import Derived.Test.YtkjndghkimnjeaaGreatGRegionFive
import Derived.Laws.EntriesVeiled
import Derived.Deep.RegionWith
import Derived.Deep.CutRange
namespace Go.Proofs.YtkjndghkimnjeaaGreat
open Go.ChangeShapes Go.WideShapes Go.ChangeAt Go.RowKit
set_option linter.unusedVariables false

/-- A spot's field. -/
def SpF (t : G.Td) (h : Hd) (f : G.Fd) (kn : Bool) : Prop := ((h.k == 1) = false ∧ f = fd0 ∧ kn = false) ∨ ((h.k == 1) = true ∧ kn = false ∧ fldOf t h.nm = none ∧ f = fd0) ∨ ((h.k == 1) = true ∧ kn = true ∧ fldOf t h.nm = some f)
def selV (h : Hd) (n : Nat) (a1 : Option Addr) (c1 : Nat) (a2 : Option Addr) (c2 : Nat) (a3 : Option Addr) (c3 : Nat) : Value :=
  .agg #[.int .i64 h.k, .string h.al, .string h.nm, .slice a1 h.args.length c1, .slice a2 h.dirs.length c2, .slice a3 n c3]
def tdV (t : G.Td) (at_ : Option Addr) (ct : Nat) : Value := .agg #[.string t.nm, .slice at_ t.fs.length ct]
def SpotR (w : World) (h : Hd) (n : Nat) (a1 : Option Addr) (c1 : Nat) (a2 : Option Addr) (c2 : Nat) (a3 : Option Addr) (c3 : Nat) (t : G.Td) (at_ : Option Addr) (ct : Nat) (e : Ending) : Prop := ∃ f af cf kn, e = .returned (spV h n a1 c1 a2 c2 a3 c3 t at_ ct f af cf kn) ∧ SpF t h f kn ∧ G.AgRow 0 w.heap.size w af f.args
set_option maxHeartbeats 4000000 in
set_option maxRecDepth 40000 in
/-- A spot of what is no field. -/
theorem spot_not (h : Hd) (n : Nat) (a1 a2 a3 at_ : Option Addr) (c1 c2 c3 ct : Nat) (t : G.Td) (w : World) (e1 : (h.k == 1) = false) :
    Calls Tryz.prog 128 #[selV h n a1 c1 a2 c2 a3 c3, tdV t at_ ct] w fun e w' => SpotR w h n a1 c1 a2 c2 a3 c3 t at_ ct e ∧ Below w.heap.size w w' := by
  unfold selV tdV
  have HN : Hid (SpotR w h n a1 c1 a2 c2 a3 c3 t at_ ct (.returned (spV h n a1 c1 a2 c2 a3 c3 t at_ ct fd0 none 0 false))) := ⟨fd0, none, 0, false, rfl, .inl ⟨e1, rfl, rfl⟩, ag_nil _ _ _ _⟩
  go_enter Tryz.func128, Tryz.ntmps128
  go_wp2_with fail
  refine bodyPost_ret (v := spV h n a1 c1 a2 c2 a3 c3 t at_ ct fd0 none 0 false) (by simp [results, Tryz.results128, go_sem, spV, fd0]) rfl ⟨HN.out, ?_⟩
  repeat (first | exact Below.refl _ _ | refine Below.setCell ?_ (by first | omega | (simp <;> omega)) _ | refine Below.alloc ?_ (by first | omega | (simp <;> omega)) _)
end Go.Proofs.YtkjndghkimnjeaaGreat
namespace Go.Proofs.YtkjndghkimnjeaaGreat
open Go.ChangeShapes Go.WideShapes Go.ChangeAt Go.RowKit Go.Maps
set_option linter.unusedVariables false

def hasT (L : List G.Td) (s : ByteArray) : Bool := L.any fun y => y.nm.toList == s.toList
def TdHeld (w0 w : World) (B : Nat) (L : List G.Td) : Prop := ∃ (D : DataW Value) (n : Nat), w.ownsMap Tryz.prog 9 heldE B n D ∧ n ≤ L.length ∧ (∀ s : ByteArray, Maps.has D (.string s.toList) = hasT L s) ∧
  ∀ x ∈ L, ∃ a c, (∀ z, D.atKey (.string x.nm.toList) z = .held (tdV x a c)) ∧ G.FdRow 0 w0.heap.size w0 a x.fs
theorem zeroTd (w : World) : (zeroValue 93).run Tryz.prog w = .ok (tdV td0 none 0) w := by kernel_rfl
theorem TdHeld.lt {w0 w : World} {B : Nat} {L : List G.Td} (h : TdHeld w0 w B L) : B < w.heap.size := by
  obtain ⟨D, n, h, _⟩ := h
  exact h.lt
theorem TdHeld.keep {w0 w w' : World} {B : Nat} {L : List G.Td} (h : TdHeld w0 w B L) (hb : w'.heap[B]? = w.heap[B]?) : TdHeld w0 w' B L := by
  obtain ⟨D, n, ⟨es, clock, h1, h2⟩, h3⟩ := h
  exact ⟨D, n, ⟨es, clock, hb.trans h1, h2⟩, h3⟩
theorem TdHeld.none (w0 w : World) : TdHeld w0 (w.alloc (.map #[] 0)) w.heap.size [] :=
  ⟨.map [], 0, World.ownsMap_made _ _ _ _, Nat.zero_le _, fun s => rfl, fun x h => by simp at h⟩
theorem TdHeld.at_ {w0 w : World} {B : Nat} {L : List G.Td} (h : TdHeld w0 w B L) (s : ByteArray) : ∃ (D : DataW Value) (n : Nat), w.ownsMap Tryz.prog 9 heldE B n D ∧ Maps.has D (.string s.toList) = hasT L s ∧
    ((hasT L s = false ∧ D.atKey (.string s.toList) (.held (tdV td0 .none 0)) = .held (tdV td0 .none 0)) ∨ ∃ x ∈ L, ∃ a c, (x.nm.toList == s.toList) = true ∧ hasT L s = true ∧ D.atKey (.string s.toList) (.held (tdV td0 .none 0)) = .held (tdV x a c) ∧ G.FdRow 0 w0.heap.size w0 a x.fs) := by
  obtain ⟨D, n, h1, _, h3, h4⟩ := h
  refine ⟨D, n, h1, h3 s, ?_⟩
  cases hh : hasT L s with
  | false => exact .inl ⟨rfl, atKey_of_not_has (by rw [h3, hh]) _⟩
  | true =>
    have hc := hh
    unfold hasT at hc
    rw [List.any_eq_true] at hc
    obtain ⟨x, hx, he⟩ := hc
    obtain ⟨a, c, h5, h6⟩ := h4 x hx
    exact .inr ⟨x, hx, a, c, he, rfl, by rw [← beq_iff_eq.1 he]; exact h5 _, h6⟩
theorem wpList_lookup_held1 {P : Program} (w : World) {ops : Array Oper} {rest : List Oper} {o : Oper} {a : Act} {Q : Exit → Act → World → Prop} (hg : o.guard = none) (m x : Operand) (t : TypeId) (hop : o.op = Op.lookup t m x false)
    (k e : TypeId) (K : Keyed P k) (ht : P.underlying t = some (.map k e)) {z : Value} (hz : (zeroValue e).run P w = .ok z w) (b n : Nat) (D : DataW Value)
    (hm : a.eval m = .map (some b)) (hown : w.ownsMap P k heldE b n D) (key : Value) (kl : Lit) (hx : a.eval x = key) (hkey : keyOf P k key = some kl) (u : Value) (hu : D.atKey kl (.held z) = .held u)
    (hK : wpList P ops Q rest (a.put o.dst u) w) : wpList P ops Q (o :: rest) a w := by
  refine wpList_plain hg fun K' hK' => ?_
  obtain ⟨v, ps, hrun, hv⟩ := hown.lookup K ht hz (zd := .held z) (zp := []) rfl hkey
  rw [hu] at hv
  simp only [heldE, Option.some.injEq, Prod.mk.injEq, DataW.held.injEq] at hv
  rw [hv.1] at hrun
  unfold Oper.wp
  simp [execOp, hop, hm, hx, hrun, Result.andThen]
  exact hK' _ _ hK
theorem TdHeld.put {w0 w' : World} {B n : Nat} {L : List G.Td} {x : G.Td} {a : Option Addr} {c : Nat} {D : DataW Value} (hD : IsMap D) (hn : hasT L x.nm = false) (hle : n ≤ L.length)
    (h1 : ∀ s : ByteArray, Maps.has D (.string s.toList) = hasT L s) (h2 : ∀ x ∈ L, ∃ a c, (∀ z, D.atKey (.string x.nm.toList) z = .held (tdV x a c)) ∧ G.FdRow 0 w0.heap.size w0 a x.fs) (hr : G.FdRow 0 w0.heap.size w0 a x.fs)
    (h : w'.ownsMap Tryz.prog 9 heldE B (n + 1) (D.put (.string x.nm.toList) (.held (tdV x a c)))) : TdHeld w0 w' B (L ++ [x]) := by
  refine ⟨_, _, h, by rw [List.length_append]; simpa using hle, fun s => ?_, fun y hy => ?_⟩
  · by_cases hs : (x.nm.toList == s.toList) = true
    · have e : s.toList = x.nm.toList := by simpa using (beq_iff_eq.1 hs).symm
      rw [e, has_put_same (k := .string x.nm.toList) hD trivial]
      unfold hasT; rw [List.any_append]; simp [e]
    · have hs : (x.nm.toList == s.toList) = false := by simpa using hs
      rw [has_put_other (key_ne hs), h1]
      unfold hasT; rw [List.any_append]; simp [hs]
  · rcases List.mem_append.1 hy with hy | hy
    · obtain ⟨a', c', h5, h6⟩ := h2 y hy
      have hne : (x.nm.toList == y.nm.toList) = false := by
        cases hc : (x.nm.toList == y.nm.toList)
        · rfl
        · have : hasT L x.nm = true := by
            unfold hasT; rw [List.any_eq_true]
            exact ⟨y, hy, by rw [beq_iff_eq] at hc; simp [hc]⟩
          rw [hn] at this; cases this
      exact ⟨a', c', fun z => by rw [atKey_put_other (key_ne hne), h5 z], h6⟩
    · simp only [List.mem_singleton] at hy
      subst hy
      exact ⟨a, c, fun z => by rw [atKey_put_same (k := .string y.nm.toList) hD trivial], hr⟩
/-- Types whose names come once are found by them. -/
theorem td_find {S : List G.Td} (h : G.OkN (S.map G.Td.nm)) {x : G.Td} (hx : x ∈ S) {n : ByteArray} (he : (x.nm.toList == n.toList) = true) : tdIn S n = some x := by
  unfold tdIn
  obtain ⟨y, hy⟩ : ∃ y, S.find? (fun t => t.nm.toList == n.toList) = some y := by
    cases hf : S.find? (fun t => t.nm.toList == n.toList) with
    | some y => exact ⟨y, rfl⟩
    | none => rw [List.find?_eq_none] at hf; exact absurd he (hf x hx)
  have hyn := List.find?_some hy
  have hym := List.mem_of_find?_eq_some hy
  obtain ⟨i, hi, rfl⟩ := List.getElem_of_mem hx
  obtain ⟨j, hj, rfl⟩ := List.getElem_of_mem hym
  have key : ∀ i j (hi : i < S.length) (hj : j < S.length), (S[i].nm.toList == n.toList) = true → (S[j].nm.toList == n.toList) = true → ¬ i < j := by
    intro i j hi hj h1 h2 hlt
    have hs := (h j (by simpa using hj)).2
    rw [G.seen_of (k := i) (by simpa using hi) hlt (by rw [beq_iff_eq] at h1 h2; simp [h1, h2])] at hs
    cases hs
  have : i = j := by
    have h1 := key i j hi hj he hyn
    have h2 := key j i hj hi hyn he
    omega
  subst this
  exact hy
theorem td_none {S : List G.Td} {n : ByteArray} (h : hasT S n = false) : tdIn S n = none := by
  unfold tdIn
  rw [List.find?_eq_none]
  intro x hx he
  have : hasT S n = true := List.any_eq_true.2 ⟨x, hx, he⟩
  rw [h] at this; cases this

def tcV (Bt Bf : Nat) (ra : Option Addr) (rn rc : Nat) : Value := .agg #[.map (some Bt), .map (some Bf), .slice ra rn rc]
def tdU (S : List G.Td) (n : ByteArray) : G.Td := (tdIn S n).getD td0
def inU (S : List G.Td) (t : G.Td) (h : Hd) (f : G.Fd) : G.Td := if (h.k == 1) = true then tdU S f.ty else t
set_option maxHeartbeats 4000000 in
set_option maxRecDepth 40000 in
theorem type_within (h : Hd) (n : Nat) (a1 a2 a3 at_ af : Option Addr) (c1 c2 c3 ct cf : Nat) (t : G.Td) (f : G.Fd) (kn : Bool) (Bt Bf : Nat) (ra : Option Addr) (rn rc : Nat) (S : List G.Td) (w0 w : World) (hO : G.OkN (S.map G.Td.nm)) (hT : TdHeld w0 w Bt S) (hW : Below w0.heap.size w0 w) (hf : f.ty.size ≤ maxLen)
    (hr : G.FdRow 0 w.heap.size w at_ t.fs) :
    Calls Tryz.prog 129 #[tcV Bt Bf ra rn rc, spV h n a1 c1 a2 c2 a3 c3 t at_ ct f af cf kn] w fun e w' => (∃ t' a' c', e = .returned (tdV t' a' c') ∧ t' = inU S t h f ∧ G.FdRow 0 w.heap.size w a' t'.fs) ∧ Below w.heap.size w w' := by
  unfold tcV spV
  cases hk : (h.k == 1) with
  | false =>
    have HN : Hid (∃ t' a' c', Ending.returned (tdV t at_ ct) = .returned (tdV t' a' c') ∧ t' = inU S t h f ∧ G.FdRow 0 w.heap.size w a' t'.fs) := ⟨t, at_, ct, rfl, by unfold inU; rw [hk]; rfl, hr⟩
    clear hr hT
    go_enter Tryz.func129, Tryz.ntmps129
    go_wp2_with fail
    refine bodyPost_ret (v := tdV t at_ ct) (by simp [results, Tryz.results129, go_sem, tdV]) rfl ⟨HN.out, ?_⟩
    repeat (first | exact Below.refl _ _ | refine Below.setCell ?_ (by first | omega | (simp <;> omega)) _ | refine Below.alloc ?_ (by first | omega | (simp <;> omega)) _)
  | true =>
    obtain ⟨D, m, hown, hh, hat⟩ := hT.at_ f.ty
    have hkey := key_of hf
    obtain ⟨t', a', c', hu, ht', hr'⟩ : ∃ t' a' c', D.atKey (.string f.ty.toList) (.held (tdV td0 .none 0)) = .held (tdV t' a' c') ∧ t' = tdU S f.ty ∧ G.FdRow 0 w.heap.size w a' t'.fs := by
      rcases hat with ⟨h1, h2⟩ | ⟨x, hx, a, c, h1, _, h2, h3⟩
      · exact ⟨td0, .none, 0, h2, by unfold tdU; rw [td_none h1]; rfl, .inl rfl⟩
      · exact ⟨x, a, c, h2, by unfold tdU; rw [td_find hO hx h1]; rfl, G.FdRow.wide (G.FdRow.keep h3 (G.agree hW (Nat.le_refl _))) (Nat.le_refl _) hW.size⟩
    have HN : Hid (∃ t'' a'' c'', Ending.returned (tdV t' a' c') = .returned (tdV t'' a'' c'') ∧ t'' = inU S t h f ∧ G.FdRow 0 w.heap.size w a'' t''.fs) := ⟨t', a', c', rfl, by unfold inU; rw [hk]; exact ht', hr'⟩
    have hlt := hT.lt
    clear hr hT hat ht' hr' hh
    unfold tdV at hu
    go_enter Tryz.func129, Tryz.ntmps129
    go_wp2_with (first
      | (at_lookup; refine wpList_lookup_held1 _ rfl _ _ 143 rfl 9 93 law9 Tryz.underlying143 (zeroTd _) Bt m D rfl (((hown.alloc _).alloc _).alloc _) _ _ rfl hkey _ hu ?_)
      | go_in)
    refine bodyPost_ret (v := tdV t' a' c') (by simp [results, Tryz.results129, go_sem, tdV]) rfl ⟨HN.out, ?_⟩
    repeat (first | exact Below.refl _ _ | refine Below.setCell ?_ (by first | omega | (simp <;> omega)) _ | refine Below.alloc ?_ (by first | omega | (simp <;> omega)) _)

set_option maxHeartbeats 4000000 in
set_option maxRecDepth 40000 in
theorem rule_spread (h : Hd) (n : Nat) (a1 a2 a3 at_ af : Option Addr) (c1 c2 c3 ct cf : Nat) (t : G.Td) (f : G.Fd) (kn : Bool) (Bt Bf : Nat) (ra : Option Addr) (rn rc : Nat) (D : List De) (w0 w : World) (hT : FrHeld w0 w Bf (frsOf D)) (hs : h.nm.size ≤ maxLen) (r : Int) (hr : r = if ((h.k == 2) && !frOK D h.nm t.nm) = true then 12 else 0) :
    Calls Tryz.prog 122 #[tcV Bt Bf ra rn rc, spV h n a1 c1 a2 c2 a3 c3 t at_ ct f af cf kn] w fun e w' => e = .returned (.int .i64 r) ∧ Below w.heap.size w w' := by
  unfold tcV spV
  cases hk : (h.k == 2) with
  | false =>
    have HN : Hid ((0 : Int) = r) := by rw [Hid, hr, hk]; rfl
    clear hr hT
    go_enter Tryz.func122, Tryz.ntmps122
    go_wp2_with fail
    go_ret
    exact ⟨ret_i HN.out, by repeat (first | exact Below.refl _ _ | refine Below.setCell ?_ (by first | omega | (simp <;> omega)) _ | refine Below.alloc ?_ (by first | omega | (simp <;> omega)) _)⟩
  | true =>
    obtain ⟨E, m, hown, hh, hat⟩ := hT.at_ h.nm
    have hkey := key_of hs
    obtain ⟨x, a, c, b, hu, hb, hx⟩ : ∃ x a c b, E.atKey (.string h.nm.toList) (.held (deV de0 .none 0)) = .held (deV x a c) ∧ Maps.has E (.string h.nm.toList) = b ∧ ((b = false ∧ D.find? (isFr h.nm) = none) ∨ (b = true ∧ D.find? (isFr h.nm) = some x)) := by
      rcases hat with ⟨h1, h2⟩ | ⟨x, hx, a, c, h1, h3, h2, _⟩
      · exact ⟨de0, .none, 0, false, h2, by rw [hh, h1], .inl ⟨rfl, frs_none h1⟩⟩
      · exact ⟨x, a, c, true, h2, by rw [hh, h3], .inr ⟨rfl, by rw [← isFr_same h1]; exact frs_find D x hx⟩⟩
    clear hT hat hh
    unfold deV at hu
    cases b with
    | false =>
      have HN : Hid ((12 : Int) = r) := by
        rcases hx with ⟨_, hx⟩ | ⟨hx, _⟩
        · rw [Hid, hr, hk]; unfold frOK; rw [hx]; rfl
        · cases hx
      clear hr hx
      go_enter Tryz.func122, Tryz.ntmps122
      go_wp2_with (first
        | (at_lookup; refine wpList_lookup_held _ rfl _ _ 145 rfl 9 78 law9 Tryz.underlying145 (zeroDef _) Bf m E rfl ((hown.alloc _).alloc _) _ _ rfl hkey _ hu false hb ?_)
        | go_in)
      go_ret
      exact ⟨ret_i HN.out, by repeat (first | exact Below.refl _ _ | refine Below.setCell ?_ (by first | omega | (simp <;> omega)) _ | refine Below.alloc ?_ (by first | omega | (simp <;> omega)) _)⟩
    | true =>
      cases he : (x.on.toList == t.nm.toList)
      all_goals
        have HN : Hid ((if (x.on.toList == t.nm.toList) = true then (0 : Int) else 12) = r) := by
          rcases hx with ⟨hx, _⟩ | ⟨_, hx⟩
          · cases hx
          · rw [Hid, hr, hk]; unfold frOK; rw [hx]; simp only [he]; rfl
        rw [he] at HN
        clear hr hx
        go_enter Tryz.func122, Tryz.ntmps122
        go_wp2_with (first
          | (at_lookup; refine wpList_lookup_held _ rfl _ _ 145 rfl 9 78 law9 Tryz.underlying145 (zeroDef _) Bf m E rfl ((hown.alloc _).alloc _) _ _ rfl hkey _ hu true hb ?_)
          | go_in)
        go_ret
        exact ⟨ret_i HN.out, by repeat (first | exact Below.refl _ _ | refine Below.setCell ?_ (by first | omega | (simp <;> omega)) _ | refine Below.alloc ?_ (by first | omega | (simp <;> omega)) _)⟩
end Go.Proofs.YtkjndghkimnjeaaGreat
namespace Go.Proofs.YtkjndghkimnjeaaGreat
open Go.ChangeShapes Go.WideShapes Go.ChangeAt Go.RowKit Go.Maps
set_option linter.unusedVariables false

theorem make_types (n : Int) (w : World) : (Instr.makeMap 143 (some (.int .i64 n))).run Tryz.prog w = .ok (.map (some w.heap.size)) (w.alloc (.map #[] 0)) := by kernel_rfl
theorem TdHeld.new {w0 wx : World} {B : Nat} (h : wx.heap[B]? = some (.map #[] 0)) : TdHeld w0 wx B [] := by
  obtain ⟨es, clock, h1, h2⟩ := World.ownsMap_made w0 Tryz.prog 9 heldE
  rw [heap_alloc_new] at h1
  simp only [Option.some.injEq, Obj.map.injEq] at h1
  obtain ⟨rfl, rfl⟩ := h1
  exact ⟨.map [], 0, ⟨#[], 0, h, h2⟩, Nat.zero_le _, fun s => rfl, fun x hx => by simp at hx⟩
theorem FrHeld.map {w0 w : World} {B : Nat} {L : List De} (h : FrHeld w0 w B L) : ∃ es clock, w.heap[B]? = some (.map es clock) := by
  obtain ⟨D, n, ⟨es, clock, h1, h2⟩, h3⟩ := h
  exact ⟨es, clock, h1⟩
theorem TdHeld.map {w0 w : World} {B : Nat} {L : List G.Td} (h : TdHeld w0 w B L) : ∃ es clock, w.heap[B]? = some (.map es clock) := by
  obtain ⟨D, n, ⟨es, clock, h1, h2⟩, h3⟩ := h
  exact ⟨es, clock, h1⟩
def rulesV (c0 : Value) : Array Value := #[.func (.func 121) #[] #[], .func (.func 122) #[c0] #[], .func (.func 123) #[] #[], .func (.func 124) #[] #[], .func (.func 125) #[] #[], .func (.func 126) #[] #[], .func (.func 127) #[] #[]]
/-- A checker of types: its maps, its rules. -/
structure Tc (w0 w : World) (S : List G.Td) (D : List De) (Bt Bf R : Nat) : Prop where
  ty : TdHeld w0 w Bt S
  fr : ∃ w1, FrHeld w1 w Bf (frsOf D)
  rl : w.heap[R]? = some (.cells (rulesV (tcV Bt Bf none 0 0)) 185 (0, 0))
  be : Below w0.heap.size w0 w
theorem Tc.keep {w0 w w' : World} {S : List G.Td} {D : List De} {Bt Bf R : Nat} (h : Tc w0 w S D Bt Bf R) (hb : Below w.heap.size w w') : Tc w0 w' S D Bt Bf R :=
  ⟨h.ty.keep (hb.block _ h.ty.lt), by obtain ⟨w1, hf⟩ := h.fr; exact ⟨w1, hf.keep (hb.block _ hf.lt)⟩, (hb.block _ (Array.getElem?_eq_some_iff.1 h.rl).1).trans h.rl, h.be.trans (hb.mono h.be.size)⟩
theorem hasT_no {S : List G.Td} (h : G.OkN (S.map G.Td.nm)) {k : Nat} (hk : k < S.length) : hasT (S.take k) S[k].nm = false := by
  have hs := (h k (by simpa using hk)).2
  cases hc : hasT (S.take k) S[k].nm with
  | false => rfl
  | true =>
    exfalso
    unfold hasT at hc
    rw [List.any_eq_true] at hc
    obtain ⟨x, hx, he⟩ := hc
    rw [List.mem_take_iff_getElem] at hx
    obtain ⟨i, hi, rfl⟩ := hx
    rw [G.seen_of (k := i) (by simp; omega) (show i < k by omega) (by simpa using he)] at hs
    cases hs

/-- What the loop over the types goes by. -/
structure TyL (w0 w wx : World) (S : List G.Td) (a : Option Addr) (n c Bt : Nat) : Prop where
  ge : w.heap.size + 1 ≤ Bt
  ty : TdHeld w0 wx Bt S
  bx : wx.heap[w.heap.size]? = some (.cells #[.slice a n c] 59 (0, 0))
  be : Below w.heap.size w wx
set_option maxHeartbeats 8000000 in
set_option maxRecDepth 40000 in
theorem types_by (a : Option Addr) (c : Nat) (S : List G.Td) (w0 w : World) (hS : G.TdRow 0 w0.heap.size w0 a S) (h0 : Below w0.heap.size w0 w) (hO : G.OkN (S.map G.Td.nm)) (hB : G.TdsBd 1048576 S) :
    Calls Tryz.prog 120 #[.agg #[.slice a S.length c]] w fun e w' => ∃ Bt, e = .returned (.map (some Bt)) ∧ w.heap.size ≤ Bt ∧ TdHeld w0 w' Bt S ∧ Below w.heap.size w w' := by
  have HS : Hid (∀ W0, Below w0.heap.size w0 W0 → G.TdRow 0 w0.heap.size W0 a S) := fun W0 hB => G.TdRow.keep hS (G.agree hB (Nat.le_refl _))
  have HSW : Hid (G.TdRow 0 w0.heap.size w0 a S) := hS
  have H0 : Hid (Below w0.heap.size w0 w) := h0
  have HO : Hid (G.OkN (S.map G.Td.nm)) := hO
  have HB : Hid (G.TdsBd 1048576 S) := hB
  have hl : S.length ≤ 1048576 := hB.1
  have hz0 := h0.size
  obtain ⟨V, hV⟩ : ∃ V, V = w.alloc (.cells #[.slice a S.length c] 59) := ⟨_, rfl⟩
  have bV : Below w.heap.size w V := by rw [hV]; exact (Below.refl _ _).alloc (Nat.le_refl _) _
  have c0 : V.heap[w.heap.size]? = some (.cells #[.slice a S.length c] 59 (0, 0)) := by rw [hV]; exact heap_alloc_new _ _
  have zV : V.heap.size = w.heap.size + 1 := by rw [hV]; simp
  have hmk := fun W => make_types S.length W
  obtain ⟨W, hW⟩ : ∃ W, W = V.alloc (.map #[] 0) := ⟨_, rfl⟩
  have L0 : Hid (TyL w0 w W (S.take 0) a S.length c V.heap.size) := by
    rw [Hid, hW]
    exact ⟨by omega, TdHeld.new (heap_alloc_new _ _), (Below.heap_alloc _ _ _ (by omega)).trans c0, bV.alloc (by omega) _⟩
  obtain ⟨Bt, hBt⟩ : ∃ B, B = V.heap.size := ⟨_, rfl⟩
  rw [← hBt] at L0
  have x0 := fun o => row_cell c0 o
  have y0 := fun ob o => (World.cell?_alloc_past (w := V) ob w.heap.size o (by omega)).trans (x0 o)
  clear hS hO hB h0 bV c0 zV
  go_enter Tryz.func120, Tryz.ntmps120
  go_upto_region 1 with fail
  rw [← hV]
  clear hV
  go_wp2_with fail
  rw [← hW, ← hBt]
  clear hW hBt x0 y0 hmk
  go_loopw [13] (fun i w' => ∃ (k : Nat), k ≤ S.length ∧ i = .int .i64 k ∧ Hid (TyL w0 w w' (S.take k) a S.length c Bt)) (fun i _ => S.length - (intOf i).toNat)
  case atStart => exact ⟨0, by omega, rfl, L0⟩
  case round =>
    obtain ⟨k, hk, rfl, HL⟩ := hrel
    have l1 := HL.out.ty.lt
    have v1 := HL.out.ge
    by_cases hlt : k < S.length
    case neg =>
      have L9 : Hid (TyL w0 w wr S a S.length c Bt) := by have := HL.out; rwa [List.take_of_length_le (by omega)] at this
      clear HL L0
      go_wp2_with fail
      go_ret
      exact ⟨Bt, rfl, by omega, L9.out.ty, L9.out.be⟩
    have HBE : Hid (Below w0.heap.size w0 wr) := H0.out.trans (HL.out.be.mono hz0)
    obtain ⟨b, o, a3, c3, ha, _, hbl, d0, d1, r3⟩ := G.TdRow.cells (HS.out _ HBE.out) k hlt
    obtain ⟨b', o', a3', c3', ha', _, hbl', d0', d1', r3'⟩ := G.TdRow.cells HSW.out k hlt
    subst ha
    simp only [Option.some.injEq, Addr.mk.injEq, and_true] at ha'
    obtain ⟨rfl, rfl⟩ := ha'
    have e1 := (HBE.out.cell (p := ⟨b, o + k * 2 + 1, none⟩) hbl).trans d1'
    have hsz : S[k].nm.size ≤ 1048576 := (HB.out.2 _ (List.getElem_mem hlt)).1
    have R3 : Hid (G.FdRow 0 w0.heap.size w0 a3' S[k].fs) := r3'
    have HNO : Hid (hasT (S.take k) S[k].nm = false) := hasT_no HO.out hlt
    have HTK : Hid (S.take (k + 1) = S.take k ++ [S[k]]) := List.take_succ_eq_append_getElem hlt
    have HLk : Hid ((S.take k).length ≤ 1048576) := by rw [Hid, List.length_take]; omega
    have hkey : keyOf Tryz.prog 9 (.string S[k].nm) = some (.string S[k].nm.toList) := key_of (by unfold maxLen; omega)
    have HLW : Hid (TyL w0 w wr (S.take k) (some ⟨b, o, none⟩) S.length c Bt) := HL.out
    generalize S.take k = L at *
    obtain ⟨E, n, hown, hn1, hn3, hn4⟩ := HLW.out.ty
    have HP : Hid (∀ W', W'.ownsMap Tryz.prog 9 heldE Bt (n + 1) (E.put (.string S[k].nm.toList) (.held (.agg #[.string S[k].nm, .slice a3' S[k].fs.length c3']))) → TdHeld w0 W' Bt (L ++ [S[k]])) :=
      fun W' h => TdHeld.put hown.isMap HNO.out hn1 hn3 hn4 R3.out h
    have hnm : n < maxLen := by have := HLk.out; unfold maxLen; omega
    have HOW : Hid (∀ ob, (wr.alloc ob).ownsMap Tryz.prog 9 heldE Bt n E) := fun ob => hown.alloc ob
    clear d1 r3 d0' d1' r3' HL L0 hown hn1 hn3 hn4
    go_wp2_with (first
      | (at_mapUpdate; refine wpList_mapUpdate_in _ rfl _ _ _ 143 rfl 9 93 law9 Tryz.underlying143 heldE Bt n E rfl (HOW.out _) hnm _ _ _ rfl rfl hkey _ [] rfl ?_; intro w8 hown8 hturn)
      | fail)
    have hgr := hturn.grown
    have B8 : ∀ g, g < wr.heap.size → g ≠ Bt → w8.heap[g]? = wr.heap[g]? := fun g h1 h2 => (hgr.block g (by simp; omega) (by simpa using h2)).trans (Below.heap_alloc _ _ _ h1)
    have L8 : Hid (TyL w0 w w8 (S.take (k + 1)) (some ⟨b, o, none⟩) S.length c Bt) := by
      rw [HTK.out]
      refine ⟨HLW.out.ge, HP.out _ hown8, (B8 w.heap.size (by have := HLW.out.be.size; omega) (by omega)).trans HLW.out.bx, ?_⟩
      exact (HLW.out.be.alloc (by have := HLW.out.be.size; omega) _).grown hgr (by have := HLW.out.be.size; simp; omega) (fun j hj => by simp at hj; omega)
    clear hown8 hturn hgr B8
    go_wp2_with fail
    exact ⟨⟨k + 1, by omega, by go_num, L8⟩, by simp [intOf]; omega⟩
def dstN (i : Nat) : Nat := [6, 7, 8, 9, 10, 5].getD i 0
theorem dstN_one : ∀ i j, i < 6 → j < 6 → dstN i = dstN j → i = j := by
  have h : ∀ i, i < 6 → ∀ j, j < 6 → dstN i = dstN j → i = j := by decide
  exact fun i j hi hj e => h i hi j hj e
def PN (w : World) (N : Nat) (a : Option Addr) (n c : Nat) (a' : Option Addr) (n' c' : Nat) (S : List G.Td) (D : List De) (i : Nat) (v : Value) (wx : World) : Prop :=
  match i with
  | 0 => v = .agg #[.slice a n c]
  | 1 => ∃ B, v = .map (some B) ∧ N + 3 ≤ B ∧ TdHeld w wx B S
  | 2 => v = .agg #[.slice a' n' c']
  | 3 => ∃ B w1, v = .map (some B) ∧ N + 3 ≤ B ∧ FrHeld w1 wx B (frsOf D)
  | 4 => ∃ B B' w1, v = .agg #[.map (some B), .map (some B'), .slice none 0 0] ∧ B ≠ B' ∧ N + 3 ≤ B ∧ N + 3 ≤ B' ∧ TdHeld w wx B S ∧ FrHeld w1 wx B' (frsOf D)
  | 5 => ∃ B, v = .pointer (some ⟨B, 0, none⟩) ∧ N + 3 ≤ B ∧ wx.heap[B]? = some (.cells #[.map none, .map none, .slice none 0 0] 148 (0, 0))
  | _ => True
theorem PN.up (w0 : World) (N : Nat) (a : Option Addr) (n c : Nat) (a' : Option Addr) (n' c' : Nat) (S : List G.Td) (D : List De) : ∀ i v w w', PN w0 N a n c a' n' c' S D i v w → Below w.heap.size w w' → PN w0 N a n c a' n' c' S D i v w' := by
  intro i v w w' h hb
  have lt : ∀ {B : Nat} {o : Obj}, w.heap[B]? = some o → B < w.heap.size := fun h => (Array.getElem?_eq_some_iff.1 h).1
  unfold PN at h ⊢
  split at h
  · exact h
  · obtain ⟨B, h1, h2, h3⟩ := h; exact ⟨B, h1, h2, h3.keep (hb.block _ h3.lt)⟩
  · exact h
  · obtain ⟨B, w1, h1, h2, h3⟩ := h; exact ⟨B, w1, h1, h2, h3.keep (hb.block _ h3.lt)⟩
  · obtain ⟨B, B', w1, h1, h2, h3, h4, h5, h6⟩ := h; exact ⟨B, B', w1, h1, h2, h3, h4, h5.keep (hb.block _ h5.lt), h6.keep (hb.block _ h6.lt)⟩
  · obtain ⟨B, h1, h2, h3⟩ := h; exact ⟨B, h1, h2, (hb.block _ (lt h3)).trans h3⟩
  · trivial
def JN (u : Nat → Value) (w : World) : Prop := (∀ b, u 7 = .map (some b) → b < w.heap.size) ∧ (∀ b, u 9 = .map (some b) → b < w.heap.size) ∧ ∀ b b', u 7 = .map (some b) → u 9 = .map (some b') → b ≠ b'
theorem JN.else_ {u : Nat → Value} {w w' : World} (h : JN u w) (hb : Below w.heap.size w w') {d : Nat} {v : Value} (h1 : d ≠ 7) (h2 : d ≠ 9) : JN (G.upd u d v) w' := by
  unfold JN at h ⊢
  rw [G.upd_ne _ _ (Ne.symm h1), G.upd_ne _ _ (Ne.symm h2)]
  have := hb.size
  exact ⟨fun b hb => by have := h.1 b hb; omega, fun b hb => by have := h.2.1 b hb; omega, h.2.2⟩
theorem JN.ty {u : Nat → Value} {w w' : World} (h : JN u w) (hb : Below w.heap.size w w') {B : Nat} (h1 : w.heap.size ≤ B) (h2 : B < w'.heap.size) : JN (G.upd u 7 (.map (some B))) w' := by
  unfold JN at h ⊢
  rw [G.upd_at, G.upd_ne _ _ (by omega)]
  have := hb.size
  refine ⟨fun b hb => ?_, fun b hb => by have := h.2.1 b hb; omega, fun b b' e1 e2 => ?_⟩
  · simp only [Value.map.injEq, Option.some.injEq] at hb; omega
  · simp only [Value.map.injEq, Option.some.injEq] at e1
    have := h.2.1 b' e2
    omega
theorem JN.fr {u : Nat → Value} {w w' : World} (h : JN u w) (hb : Below w.heap.size w w') {B : Nat} (h1 : w.heap.size ≤ B) (h2 : B < w'.heap.size) : JN (G.upd u 9 (.map (some B))) w' := by
  unfold JN at h ⊢
  rw [G.upd_at, G.upd_ne _ _ (by omega)]
  have := hb.size
  refine ⟨fun b hb => by have := h.1 b hb; omega, fun b hb => ?_, fun b b' e1 e2 => ?_⟩
  · simp only [Value.map.injEq, Option.some.injEq] at hb; omega
  · simp only [Value.map.injEq, Option.some.injEq] at e2
    have := h.1 b e1
    omega
set_option maxHeartbeats 8000000 in
set_option maxRecDepth 40000 in
theorem new_check (a : Option Addr) (c : Nat) (S : List G.Td) (a' : Option Addr) (c' : Nat) (D : List De) (w : World) (hS : G.TdRow 0 w.heap.size w a S) (hO : G.OkN (S.map G.Td.nm)) (hB : G.TdsBd 1048576 S) (hD : DeRow 0 w.heap.size w a' D) (hb : DefsBd 1048576 D) :
    Calls Tryz.prog 94 #[.agg #[.slice a S.length c], .agg #[.slice a' D.length c']] w fun e w' => (∃ Bt Bf R, e = .returned (tcV Bt Bf (some ⟨R, 0, none⟩) 7 7) ∧ Tc w w' S D Bt Bf R) ∧ Below w.heap.size w w' := by
  have HSW : Hid (G.TdRow 0 w.heap.size w a S) := hS
  have HO : Hid (G.OkN (S.map G.Td.nm)) := hO
  have HB : Hid (G.TdsBd 1048576 S) := hB
  have K1 : Hid (∀ W0, Below w.heap.size w W0 → DeRow 0 W0.heap.size W0 a' D) := fun W0 hB => DeRow.up hD hB
  have HD : Hid (DefsBd 1048576 D) := hb
  have hl : S.length ≤ 1048576 := hB.1
  clear hS hO hB hD hb
  go_enter Tryz.func94, Tryz.ntmps94
  go_wp2_with fail
  obtain ⟨W, hW⟩ : ∃ W, W = ((w.alloc (.cells #[.slice a S.length c] 59)).alloc (.cells #[.slice a' D.length c'] 33)).alloc (.cells #[.map none, .map none, .slice none 0 0] 148) := ⟨_, rfl⟩
  rw [← hW]
  have zW : W.heap.size = w.heap.size + 3 := by rw [hW]; simp
  have BW : Hid (Below w.heap.size w W) := by rw [hW]; exact (((Below.refl _ _).alloc (Nat.le_refl _) _).alloc (by simp) _).alloc (by simp; omega) _
  have A0 : Hid (W.heap[w.heap.size]? = some (.cells #[.slice a S.length c] 59 (0, 0))) := by rw [Hid, hW, Below.heap_alloc _ _ _ (by simp; omega), Below.heap_alloc _ _ _ (by simp)]; exact heap_alloc_new _ _
  have A1 : Hid (W.heap[w.heap.size + 1]? = some (.cells #[.slice a' D.length c'] 33 (0, 0))) := by
    rw [Hid, hW, Below.heap_alloc _ _ _ (by simp)]
    have := heap_alloc_new (w.alloc (.cells #[.slice a S.length c] 59)) (.cells #[.slice a' D.length c'] 33)
    simpa using this
  have A2 : Hid (W.heap[w.heap.size + 2]? = some (.cells #[.map none, .map none, .slice none 0 0] 148 (0, 0))) := by
    rw [Hid, hW]
    have := heap_alloc_new ((w.alloc (.cells #[.slice a S.length c] 59)).alloc (.cells #[.slice a' D.length c'] 33)) (.cells #[.map none, .map none, .slice none 0 0] 148)
    simpa using this
  clear hW
  refine G.region_rel (n := 6) (by kernel_rfl) (by kernel_rfl) (by kernel_rfl) (fun u => ⟨#[.agg #[.slice a S.length c], .agg #[.slice a' D.length c'], .pointer (some ⟨w.heap.size, 0, none⟩), .pointer (some ⟨w.heap.size + 1, 0, none⟩), .pointer (some ⟨w.heap.size + 1 + 1, 0, none⟩), u 5, u 6, u 7, u 8, u 9, u 10, undef, undef, undef, undef, undef], []⟩) (fun _ => undef) dstN dstN_one (PN w w.heap.size a S.length c a' D.length c' S D) JN (PN.up _ _ _ _ _ _ _ _ _ _) ?start ?step ?last
  case start => exact ⟨fun b h => (by cases h), fun b h => (by cases h), fun b b' h => (by cases h)⟩
  case step =>
    intro u w2 i hi hbw hj hdep
    have q0 := row_cell ((hbw.block w.heap.size (by omega)).trans A0.out) 0
    have q1 := row_cell ((hbw.block (w.heap.size + 1) (by omega)).trans A1.out) 0
    have z2 := hbw.size
    have HBw : Hid (Below w.heap.size w w2) := BW.out.trans (hbw.mono (by omega))
    have HJ : Hid (JN u w2) := hj
    clear hj hbw
    have hcase : i = 0 ∨ i = 1 ∨ i = 2 ∨ i = 3 ∨ i = 4 ∨ i = 5 := by omega
    rcases hcase with rfl | rfl | rfl | rfl | rfl | rfl
    · refine wpOp_step rfl (fun K hK => ?_)
      clear hdep
      go_simp
      exact hK _ _ ⟨_, rfl, Below.refl _ _, rfl, HJ.out.else_ (Below.refl _ _) (by decide) (by decide)⟩
    · have d0 : u 6 = .agg #[.slice a S.length c] := hdep _ rfl ⟨0, .data⟩ (by simp) rfl
      refine wpOp_step rfl (fun K hK => ?_)
      clear hdep
      go_simp
      refine (types_by a c S w _ HSW.out HBw.out HO.out HB.out).mono ?_
      rintro e w8 ⟨B, rfl, hB, hF, hb8⟩
      exact hK _ _ ⟨.map (some B), by simp [G.upd, dstN, d0], hb8, ⟨B, rfl, by omega, hF⟩, HJ.out.ty hb8 hB hF.lt⟩
    · refine wpOp_step rfl (fun K hK => ?_)
      clear hdep
      go_simp
      exact hK _ _ ⟨_, rfl, Below.refl _ _, rfl, HJ.out.else_ (Below.refl _ _) (by decide) (by decide)⟩
    · have d4 : u 8 = .agg #[.slice a' D.length c'] := hdep _ rfl ⟨2, .data⟩ (by simp) rfl
      refine wpOp_step rfl (fun K hK => ?_)
      clear hdep
      go_simp
      refine (frs_of a' c' D _ (K1.out _ HBw.out) HD.out).mono ?_
      rintro e w8 ⟨B, rfl, hB, hF, hb8⟩
      exact hK _ _ ⟨.map (some B), by simp [G.upd, dstN, d4], hb8, ⟨B, w2, rfl, by omega, hF⟩, HJ.out.fr hb8 hB hF.lt⟩
    · have p3 : PN w w.heap.size a S.length c a' D.length c' S D 1 (u 7) w2 := hdep _ rfl ⟨1, .data⟩ (by simp) rfl
      have p5 : PN w w.heap.size a S.length c a' D.length c' S D 3 (u 9) w2 := hdep _ rfl ⟨3, .data⟩ (by simp) rfl
      obtain ⟨B, e1, e2, e3⟩ := p3
      obtain ⟨B', w1, f1, f2, f3⟩ := p5
      have hne := HJ.out.2.2 B B' e1 f1
      refine wpOp_step rfl (fun K hK => ?_)
      clear hdep
      go_simp
      exact hK _ _ ⟨.agg #[.map (some B), .map (some B'), .slice none 0 0], by simp [G.upd, dstN, e1, f1], Below.refl _ _, ⟨B, B', w1, rfl, hne, e2, f2, e3, f3⟩, HJ.out.else_ (Below.refl _ _) (by decide) (by decide)⟩
    · refine wpOp_step rfl (fun K hK => ?_)
      clear hdep
      go_simp
      exact hK _ _ ⟨.pointer (some ⟨w2.heap.size, 0, none⟩), rfl, (Below.refl _ _).alloc (Nat.le_refl _) _, ⟨w2.heap.size, rfl, by omega, heap_alloc_new _ _⟩, HJ.out.else_ ((Below.refl _ _).alloc (Nat.le_refl _) _) (by decide) (by decide)⟩
  case last =>
    intro u w2 hbw _ hp
    have p6 : PN w w.heap.size a S.length c a' D.length c' S D 4 (u 10) w2 := hp 4 (by omega)
    have p7 : PN w w.heap.size a S.length c a' D.length c' S D 5 (u 5) w2 := hp 5 (by omega)
    obtain ⟨Bt, Bf, w1, e1, hne, g1, g2, e2, e3⟩ := p6
    obtain ⟨Bc, f1, g3, f2⟩ := p7
    obtain ⟨es, clock, e4⟩ := e3.map
    obtain ⟨es2, clock2, e5⟩ := e2.map
    have n1 : Bt ≠ Bc := fun e => by subst e; rw [e5] at f2; cases f2
    have n2 : Bf ≠ Bc := fun e => by subst e; rw [e4] at f2; cases f2
    have z2 := hbw.size
    have cc := fun o => row_cell f2 o
    have cf := fun o => row_frozen f2 o
    have Q2 : Hid (Below w.heap.size w w2) := BW.out.trans (hbw.mono (by omega))
    have A22 : Hid (w2.heap[w.heap.size + 2]? = some (.cells #[.map none, .map none, .slice none 0 0] 148 (0, 0))) := (hbw.block (w.heap.size + 2) (by omega)).trans A2.out
    have E2 : Hid (TdHeld w w2 Bt S) := e2
    have E3 : Hid (FrHeld w1 w2 Bf (frsOf D)) := e3
    have F2 : Hid (w2.heap[Bc]? = some (.cells #[.map none, .map none, .slice none 0 0] 148 (0, 0))) := f2
    have hBt := e2.lt
    have hBf := e3.lt
    have hBc := (Array.getElem?_eq_some_iff.1 f2).1
    clear hp hbw e2 e3 e4 e5 f2
    refine wpOp_step rfl (fun K hK => ?_)
    go_simp
    refine hK _ _ ?_
    clear hK K
    obtain ⟨wr, hX⟩ : ∃ X, X = ((w2.setCell ⟨Bc, 0, none⟩ (.map (some Bt))).setCell ⟨Bc, 1, none⟩ (.map (some Bf))).setCell ⟨Bc, 2, none⟩ (.slice none 0 0) := ⟨_, rfl⟩
    rw [← hX]
    have hs : ∀ g, g ≠ Bc → wr.heap[g]? = w2.heap[g]? := fun g hg => by
      rw [hX]
      rw [Below.heap_setCell _ _ _ _ hg, Below.heap_setCell _ _ _ _ hg, Below.heap_setCell _ _ _ _ hg]
    have hzr : wr.heap.size = w2.heap.size := by rw [hX]; simp
    have ce : wr.heap[Bc]? = some (.cells #[.map (some Bt), .map (some Bf), .slice none 0 0] 148 (0, 0)) := by
      rw [hX]
      have := row_set (row_set (row_set F2.out 0 (.map (some Bt))) 1 (.map (some Bf))) 2 (.slice none 0 0)
      simpa using this
    have rs : wr.heap[w.heap.size + 2]? = some (.cells #[.map none, .map none, .slice none 0 0] 148 (0, 0)) := (hs _ (by omega)).trans A22.out
    have QW : Hid (Below w.heap.size w wr) := by
      rw [Hid, hX]
      exact ((Q2.out.setCell (p := ⟨Bc, 0, none⟩) (show w.heap.size ≤ Bc by omega) _).setCell (p := ⟨Bc, 1, none⟩) (show w.heap.size ≤ Bc by omega) _).setCell (p := ⟨Bc, 2, none⟩) (show w.heap.size ≤ Bc by omega) _
    have TY : Hid (TdHeld w wr Bt S) := E2.out.keep (hs _ n1)
    have FR : Hid (FrHeld w1 wr Bf (frsOf D)) := E3.out.keep (hs _ n2)
    have c0 := fun o => row_cell ce o
    have f0 := fun o => row_frozen ce o
    have RS : Hid _ := rs
    have h2 : ∀ v ob, ((wr.setCell ⟨Bc, 2, none⟩ v).alloc ob).heap[w.heap.size + 1 + 1]? = some (.cells #[.map none, .map none, .slice none 0 0] 148 (0, 0)) := fun v ob => by
      rw [Below.heap_alloc _ _ _ (by simp; omega), Below.heap_setCell _ _ _ _ (show w.heap.size + 1 + 1 ≠ Bc by omega)]
      exact RS.out
    have c2 := fun v ob o => row_cell (h2 v ob) o
    have f2 := fun v ob o => row_frozen (h2 v ob) o
    have HR9 : Hid (∀ W0 : World, Below w.heap.size w W0 → W0.heap[Bt]? = wr.heap[Bt]? → W0.heap[Bf]? = wr.heap[Bf]? → W0.heap[wr.heap.size]? = some (.cells (rulesV (tcV Bt Bf none 0 0)) 185 (0, 0)) → Tc w W0 S D Bt Bf wr.heap.size) :=
      fun W0 hB h1 h2 h3 => ⟨TY.out.keep h1, ⟨w1, FR.out.keep h2⟩, h3, hB⟩
    have l1 : Bt < wr.heap.size := by omega
    have l2 : Bf < wr.heap.size := by omega
    have l3 : Bc < wr.heap.size := by omega
    have hzz := QW.out.size
    clear hX hs cc cf E2 E3 F2 A22 h2 ce rs RS hzr
    go_wp2_with fail
    refine bodyPost_ret (v := tcV Bt Bf (some ⟨wr.heap.size, 0, none⟩) 7 7) (by simp [results, Tryz.results94, go_sem, c2, tcV]) rfl ⟨⟨Bt, Bf, wr.heap.size, rfl, HR9.out _ ?_ ?_ ?_ ?_⟩, ?_⟩
    · repeat (first | exact QW.out | refine Below.setCell ?_ (by first | omega | (simp <;> omega)) _ | refine Below.alloc ?_ (by first | omega | (simp <;> omega)) _)
    · repeat rw [Below.heap_setCell _ _ _ _ (show Bt ≠ w.heap.size + 1 + 1 by omega)]
      rw [Below.heap_alloc _ _ _ (by simp; omega), Below.heap_setCell _ _ _ _ (show Bt ≠ Bc by omega)]
    · repeat rw [Below.heap_setCell _ _ _ _ (show Bf ≠ w.heap.size + 1 + 1 by omega)]
      rw [Below.heap_alloc _ _ _ (by simp; omega), Below.heap_setCell _ _ _ _ (show Bf ≠ Bc by omega)]
    · repeat rw [Below.heap_setCell _ _ _ _ (show wr.heap.size ≠ w.heap.size + 1 + 1 by omega)]
      have := heap_alloc_new (wr.setCell ⟨Bc, 2, none⟩ (.slice (some ⟨wr.heap.size, 0, none⟩) 7 7)) (.cells (rulesV (tcV Bt Bf none 0 0)) 185)
      rw [show (wr.setCell ⟨Bc, 2, none⟩ (.slice (some ⟨wr.heap.size, 0, none⟩) 7 7)).heap.size = wr.heap.size by simp] at this
      exact this
    · repeat (first | exact QW.out | refine Below.setCell ?_ (by first | omega | (simp <;> omega)) _ | refine Below.alloc ?_ (by first | omega | (simp <;> omega)) _)
end Go.Proofs.YtkjndghkimnjeaaGreat
