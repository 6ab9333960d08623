/- Limits and merging in plain terms: sets as lists, spreads being what they spread. -/
import Derived.Test.YtkjndghkimnjeaaGreatDocTo
import Derived.Maps.OwnSet
namespace Go.Proofs.YtkjndghkimnjeaaGreat
open Go.ChangeShapes Go.WideShapes Go.ChangeAt Go.RowKit
set_option linter.unusedVariables false

def de0 : De := ⟨0, ⟨#[]⟩, ⟨#[]⟩, .nil⟩
def deV (x : De) (a : Option Addr) (c : Nat) : Value := .agg #[.int .i64 x.k, .string x.nm, .string x.on, .slice a x.sels.len c]
def isFr (s : ByteArray) (x : De) : Bool := (x.k == 3) && (x.nm.toList == s.toList)
theorem find_at {p : De → Bool} : ∀ {l : List De} {k : Nat} (hk : k < l.length), (∀ x ∈ l.take k, p x = false) → p l[k] = true → l.find? p = some l[k]
  | [], k, hk, _, _ => by simp at hk
  | x :: l, 0, hk, _, h => by
    have h : p x = true := h
    simp [h]
  | x :: l, k + 1, hk, ha, h => by
    have hx : p x = false := ha x (by simp)
    have := find_at (l := l) (k := k) (by simpa using hk) (fun y hy => ha y (by simp [hy])) (by simpa using h)
    simp [hx, this]
theorem find_no {p : De → Bool} {l : List De} (h : ∀ x ∈ l, p x = false) : l.find? p = none := by
  rw [List.find?_eq_none]
  intro x hx; rw [h x hx]; simp
theorem isFr_take {s : ByteArray} {l : List De} {k : Nat} (hk : k < l.length) (h : ∀ x ∈ l.take k, isFr s x = false) (h2 : isFr s l[k] = false) : ∀ x ∈ l.take (k + 1), isFr s x = false := by
  rw [List.take_succ_eq_append_getElem hk]
  intro x hx
  rcases List.mem_append.1 hx with hx | hx
  · exact h x hx
  · simp only [List.mem_singleton] at hx; subst hx; exact h2

set_option maxHeartbeats 4000000 in
set_option maxRecDepth 40000 in
theorem spec_fragment (a : Option Addr) (c : Nat) (l : List De) (s : ByteArray) (w : World) (hr : DeRow 0 w.heap.size w a l) (hl : l.length ≤ 1048576) :
    Calls Tryz.prog 79 #[.agg #[.slice a l.length c], .string s] w fun e w' => ((l.find? (isFr s) = none ∧ e = .returned (.tuple #[.agg #[.int .i64 0, .string ⟨#[]⟩, .string ⟨#[]⟩, .slice none 0 0], .bool false])) ∨ ∃ x a3 c3, l.find? (isFr s) = some x ∧ e = .returned (.tuple #[deV x a3 c3, .bool true]) ∧ SelRow 0 w.heap.size w a3 x.sels) ∧ Below w.heap.size w w' := by
  have HR : Hid (DeRow 0 w.heap.size w a l) := hr
  clear hr
  go_enter Tryz.func79, Tryz.ntmps79
  go_wp2_with fail
  obtain ⟨W, hW⟩ : ∃ W, W = (w.alloc (.cells #[.slice a l.length c] 33)).alloc (.cells #[.int .i64 0, .string ⟨#[]⟩, .string ⟨#[]⟩, .slice none 0 0] 78) := ⟨_, rfl⟩
  rw [← hW]
  have B0 : Below w.heap.size w W := by rw [hW]; exact ((Below.refl _ _).alloc (Nat.le_refl _) _).alloc (by simp) _
  have zW : W.heap.size = w.heap.size + 2 := by rw [hW]; simp
  have kW : ∀ o, W.cell? ⟨w.heap.size, o, none⟩ = (#[.slice a l.length c] : Array Value)[o]? := fun o => by
    rw [hW]
    refine (((Below.refl _ _).alloc (Nat.le_refl _) _).cell (p := ⟨w.heap.size, o, none⟩) (by simp)).trans (row_cell (heap_alloc_new _ _) o)
  have HJ : Hid (W.heap[w.heap.size + 1]? = some (.cells #[.int .i64 0, .string ⟨#[]⟩, .string ⟨#[]⟩, .slice none 0 0] 78 (0, 0))) := by
    unfold Hid
    rw [hW]
    have := heap_alloc_new (w.alloc (.cells #[.slice a l.length c] 33)) (.cells #[.int .i64 0, .string ⟨#[]⟩, .string ⟨#[]⟩, .slice none 0 0] 78)
    simpa using this
  clear hW
  go_loopw [6] (fun i w' => ∃ (k : Nat), k ≤ l.length ∧ i = .int .i64 k ∧ Below W.heap.size W w' ∧ Hid (∀ x ∈ l.take k, isFr s x = false)) (fun i _ => l.length - (intOf i).toNat)
  case atStart => exact ⟨0, by omega, rfl, Below.refl _ _, by simp [Hid]⟩
  case round =>
    obtain ⟨k, hk, rfl, hbw, HA⟩ := hrel
    have hbz := hbw.size
    have ks : wr.cell? ⟨w.heap.size, 0, none⟩ = some (.slice a l.length c) := (hbw.cell (p := ⟨w.heap.size, 0, none⟩) (show w.heap.size < W.heap.size by omega)).trans (kW 0)
    have HJr : Hid (wr.heap[w.heap.size + 1]? = _) := (hbw.block _ (by omega)).trans HJ.out
    have kr := fun o => row_cell HJr.out o
    have jr := fun o => row_frozen HJr.out o
    have Qr : Hid (Below w.heap.size w wr) := B0.trans (hbw.mono (by omega))
    have HBW : Hid _ := hbw
    by_cases hlt : k < l.length
    case neg =>
      have HN : Hid (l.find? (isFr s) = none) := find_no (by have := HA.out; rwa [List.take_of_length_le (by omega)] at this)
      clear hbw
      go_wp2_with fail
      refine bodyPost_ret (v := .tuple #[.agg #[.int .i64 0, .string ⟨#[]⟩, .string ⟨#[]⟩, .slice none 0 0], .bool false]) (by simp [results, Tryz.results79, go_sem, kr]) rfl ⟨.inl ⟨HN.out, rfl⟩, ?_⟩
      repeat (first | exact Qr.out | refine Below.setCell ?_ (by first | omega | (simp <;> omega)) _ | refine Below.alloc ?_ (by first | omega | (simp <;> omega)) _)
    obtain ⟨b, o, a3, c3, ha, _, hbl, d0, d1, d2, d3, r3⟩ := DeRow.cells (HR.out.keep (Below.agree Qr.out (Nat.le_refl _))) k hlt
    subst ha
    obtain ⟨b', o', a3', c3', ha, _, _, _, _, _, d3', r3'⟩ := DeRow.cells HR.out k hlt
    simp only [Option.some.injEq, Addr.mk.injEq, and_true] at ha
    obtain ⟨rfl, rfl⟩ := ha
    have e3 : a3' = a3 := by
      have := (Qr.out.cell (p := ⟨b, o + k * 4 + 3, none⟩) hbl).symm.trans d3
      rw [d3'] at this
      simp only [Option.some.injEq, Value.slice.injEq] at this
      exact this.1
    subst e3
    have R3 : Hid (SelRow 0 w.heap.size w a3' l[k].sels) := r3'
    clear r3 hbw r3' d3'
    cases h3 : (l[k].k == 3) with
    | false =>
      have HF : Hid (isFr s l[k] = false) := by unfold Hid isFr; rw [h3]; rfl
      go_wp2_with fail
      exact ⟨⟨k + 1, by omega, by go_num, HBW.out, isFr_take hlt HA.out HF.out⟩, by simp [intOf]; omega⟩
    | true =>
    cases h4 : (l[k].nm.toList == s.toList) with
    | false =>
      have HF : Hid (isFr s l[k] = false) := by unfold Hid isFr; rw [h3, h4]; rfl
      go_wp2_with fail
      exact ⟨⟨k + 1, by omega, by go_num, HBW.out, isFr_take hlt HA.out HF.out⟩, by simp [intOf]; omega⟩
    | true =>
    have HF : Hid (l.find? (isFr s) = some l[k]) := find_at hlt HA.out (by unfold isFr; rw [h3, h4]; rfl)
    go_wp2_with fail
    refine bodyPost_ret (v := .tuple #[deV l[k] a3' c3, .bool true]) (by simp [results, Tryz.results79, go_sem, kr, deV]) rfl ⟨.inr ⟨_, _, _, HF.out, rfl, R3.out⟩, ?_⟩
    repeat (first | exact Qr.out | refine Below.setCell ?_ (by first | omega | (simp <;> omega)) _ | refine Below.alloc ?_ (by first | omega | (simp <;> omega)) _)

end Go.Proofs.YtkjndghkimnjeaaGreat
namespace Go.Proofs.YtkjndghkimnjeaaGreat
open Go.ChangeShapes Go.WideShapes Go.ChangeAt Go.RowKit Go.Maps
open Go.WideMaps (keyOf_string_mk)
set_option linter.unusedVariables false

def hasNm (L : List De) (s : ByteArray) : Bool := L.any fun y => y.nm.toList == s.toList
def addFr (L : List De) (x : De) : List De := if (x.k == 3) && !hasNm L x.nm then L ++ [x] else L
def frsOf (l : List De) : List De := l.foldl addFr []
theorem frs_take {l : List De} {k : Nat} (hk : k < l.length) : frsOf (l.take (k + 1)) = addFr (frsOf (l.take k)) l[k] := by
  unfold frsOf; rw [List.take_succ_eq_append_getElem hk, List.foldl_append]; rfl
theorem frs_snoc (l : List De) (x : De) : frsOf (l ++ [x]) = addFr (frsOf l) x := by unfold frsOf; rw [List.foldl_append]; rfl
theorem hasNm_add (L : List De) (x : De) (s : ByteArray) : hasNm (addFr L x) s = (hasNm L s || isFr s x) := by
  unfold addFr isFr
  cases h3 : (x.k == 3)
  · simp
  · cases hh : hasNm L x.nm
    · simp only [Bool.not_false, Bool.and_true, if_true, Bool.true_and]
      unfold hasNm; rw [List.any_append]; simp
    · simp only [Bool.not_true, Bool.and_false, Bool.true_and]
      cases he : (x.nm.toList == s.toList)
      · simp
      · rw [beq_iff_eq] at he
        unfold hasNm at hh ⊢
        rw [he] at hh
        simp [hh]
theorem foldl_snoc_ind {α : Type} {P : List α → Prop} (h0 : P []) (h1 : ∀ l x, P l → P (l ++ [x])) : ∀ l, P l := by
  intro l
  have : ∀ n, ∀ l : List α, l.length = n → P l := by
    intro n
    induction n with
    | zero => intro l hl; rw [List.length_eq_zero_iff.1 hl]; exact h0
    | succ n ih =>
      intro l hl
      have hne : l ≠ [] := by intro e; rw [e] at hl; simp at hl
      rw [← List.dropLast_concat_getLast hne]
      exact h1 _ _ (ih _ (by simp [hl]))
  exact this l.length l rfl
theorem frs_any (l : List De) (s : ByteArray) : hasNm (frsOf l) s = l.any (isFr s) := by
  refine foldl_snoc_ind (P := fun l => hasNm (frsOf l) s = l.any (isFr s)) rfl ?_ l
  intro l x ih
  rw [frs_snoc, hasNm_add, ih, List.any_append]
  simp
theorem frs_sub (l : List De) : ∀ x ∈ frsOf l, x ∈ l := by
  refine foldl_snoc_ind (P := fun l => ∀ x ∈ frsOf l, x ∈ l) (by simp [frsOf]) ?_ l
  intro l y ih x hx
  rw [frs_snoc] at hx
  unfold addFr at hx
  split at hx
  · rcases List.mem_append.1 hx with hx | hx
    · exact List.mem_append_left _ (ih x hx)
    · exact List.mem_append_right _ hx
  · exact List.mem_append_left _ (ih x hx)

theorem frs_len (l : List De) : (frsOf l).length ≤ l.length := by
  refine foldl_snoc_ind (P := fun l => (frsOf l).length ≤ l.length) (Nat.le_refl _) ?_ l
  intro l y ih
  rw [frs_snoc]
  unfold addFr
  split <;> simp <;> omega
/-- An element of a map is read as itself. -/
def heldE (v : Value) : Option (DataW Value × List MemPlace) := some (.held v, [])
def FrHeld (w0 w : World) (B : Nat) (L : List De) : Prop := ∃ (D : DataW Value) (n : Nat), w.ownsMap Tryz.prog 9 heldE B n D ∧ n ≤ L.length ∧ Maps.size D = L.length ∧ (∀ s : ByteArray, Maps.has D (.string s.toList) = hasNm L s) ∧
  ∀ x ∈ L, ∃ a c, (∀ z, D.atKey (.string x.nm.toList) z = .held (deV x a c)) ∧ SelRow 0 w0.heap.size w0 a x.sels
theorem law9 : Keyed Tryz.prog 9 := string_keyed Tryz.underlying9
theorem zeroDef (w : World) : (zeroValue 78).run Tryz.prog w = .ok (deV de0 none 0) w := by kernel_rfl
theorem make_frs (w : World) : (Instr.makeMap 145 none).run Tryz.prog w = .ok (.map (some w.heap.size)) (w.alloc (.map #[] 0)) := by kernel_rfl
theorem key_of {s : ByteArray} (hs : s.size ≤ maxLen) : keyOf Tryz.prog 9 (.string s) = some (.string s.toList) := by
  rw [ByteArray.toList_eq]; exact keyOf_string_mk Tryz.underlying9 hs
theorem key_ne {s t : ByteArray} (h : (t.toList == s.toList) = false) : Lit.string s.toList ≠ Lit.string t.toList := by
  intro e
  simp only [Lit.string.injEq] at e
  rw [e] at h; simp at h
theorem FrHeld.lt {w0 w : World} {B : Nat} {L : List De} (h : FrHeld w0 w B L) : B < w.heap.size := by
  obtain ⟨D, n, h, _⟩ := h
  exact h.lt
theorem FrHeld.keep {w0 w w' : World} {B : Nat} {L : List De} (h : FrHeld w0 w B L) (hb : w'.heap[B]? = w.heap[B]?) : FrHeld w0 w' B L := by
  obtain ⟨D, n, ⟨es, clock, h1, h2⟩, h3⟩ := h
  exact ⟨D, n, ⟨es, clock, hb.trans h1, h2⟩, h3⟩
theorem FrHeld.none (w0 w : World) : FrHeld w0 (w.alloc (.map #[] 0)) w.heap.size [] :=
  ⟨.map [], 0, World.ownsMap_made _ _ _ _, Nat.zero_le _, rfl, fun s => rfl, fun x h => by simp at h⟩
theorem FrHeld.at_ {w0 w : World} {B : Nat} {L : List De} (h : FrHeld w0 w B L) (s : ByteArray) : ∃ (D : DataW Value) (n : Nat), w.ownsMap Tryz.prog 9 heldE B n D ∧ Maps.has D (.string s.toList) = hasNm L s ∧
    ((hasNm L s = false ∧ D.atKey (.string s.toList) (.held (deV de0 .none 0)) = .held (deV de0 .none 0)) ∨ ∃ x ∈ L, ∃ a c, (x.nm.toList == s.toList) = true ∧ hasNm L s = true ∧ D.atKey (.string s.toList) (.held (deV de0 .none 0)) = .held (deV x a c) ∧ SelRow 0 w0.heap.size w0 a x.sels) := by
  obtain ⟨D, n, h1, _, _, h3, h4⟩ := h
  refine ⟨D, n, h1, h3 s, ?_⟩
  cases hh : hasNm L s with
  | false => exact .inl ⟨rfl, atKey_of_not_has (by rw [h3, hh]) _⟩
  | true =>
    have hc := hh
    unfold hasNm at hc
    rw [List.any_eq_true] at hc
    obtain ⟨x, hx, he⟩ := hc
    obtain ⟨a, c, h5, h6⟩ := h4 x hx
    exact .inr ⟨x, hx, a, c, he, rfl, by rw [← beq_iff_eq.1 he]; exact h5 _, h6⟩
theorem wpList_lookup_held {P : Program} (w : World) {ops : Array Oper} {rest : List Oper} {o : Oper} {a : Act} {Q : Exit → Act → World → Prop} (hg : o.guard = none) (m x : Operand) (t : TypeId) (hop : o.op = Op.lookup t m x true)
    (k e : TypeId) (K : Keyed P k) (ht : P.underlying t = some (.map k e)) {z : Value} (hz : (zeroValue e).run P w = .ok z w) (b n : Nat) (D : DataW Value)
    (hm : a.eval m = .map (some b)) (hown : w.ownsMap P k heldE b n D) (key : Value) (kl : Lit) (hx : a.eval x = key) (hkey : keyOf P k key = some kl) (u : Value) (hu : D.atKey kl (.held z) = .held u) (f : Bool) (hf : Maps.has D kl = f)
    (hK : wpList P ops Q rest (a.put o.dst (.tuple #[u, .bool f])) w) : wpList P ops Q (o :: rest) a w := by
  subst hf
  refine wpList_lookup_own_ok w hg m x t hop k e K ht heldE hz (.held z) [] rfl b n D hm hown key kl hx hkey (fun v ps hv => ?_)
  rw [hu] at hv
  simp only [heldE, Option.some.injEq, Prod.mk.injEq, DataW.held.injEq] at hv
  rw [hv.1]; exact hK
theorem FrHeld.put {w0 w' : World} {B n : Nat} {L : List De} {x : De} {a : Option Addr} {c : Nat} {D : DataW Value} (hD : Tidy D) (hn : hasNm L x.nm = false) (hle : n ≤ L.length) (h0 : Maps.size D = L.length)
    (h1 : ∀ s : ByteArray, Maps.has D (.string s.toList) = hasNm L s) (h2 : ∀ x ∈ L, ∃ a c, (∀ z, D.atKey (.string x.nm.toList) z = .held (deV x a c)) ∧ SelRow 0 w0.heap.size w0 a x.sels) (hr : SelRow 0 w0.heap.size w0 a x.sels)
    (h : w'.ownsMap Tryz.prog 9 heldE B (n + 1) (D.put (.string x.nm.toList) (.held (deV x a c)))) : FrHeld w0 w' B (L ++ [x]) := by
  refine ⟨_, _, h, by rw [List.length_append]; simpa using hle, ?_, fun s => ?_, fun y hy => ?_⟩
  · rw [size_put hD, h1, hn, h0]; simp
  · by_cases hs : (x.nm.toList == s.toList) = true
    · have e : s.toList = x.nm.toList := by simpa using (beq_iff_eq.1 hs).symm
      rw [e, has_put_same (k := .string x.nm.toList) hD.isMap trivial]
      unfold hasNm; rw [List.any_append]; simp [e]
    · have hs : (x.nm.toList == s.toList) = false := by simpa using hs
      rw [has_put_other (key_ne hs), h1]
      unfold hasNm; rw [List.any_append]; simp [hs]
  · rcases List.mem_append.1 hy with hy | hy
    · obtain ⟨a', c', h5, h6⟩ := h2 y hy
      have hne : (x.nm.toList == y.nm.toList) = false := by
        cases hc : (x.nm.toList == y.nm.toList)
        · rfl
        · have : hasNm L x.nm = true := by
            unfold hasNm; rw [List.any_eq_true]
            exact ⟨y, hy, by rw [beq_iff_eq] at hc; simp [hc]⟩
          rw [hn] at this; cases this
      exact ⟨a', c', fun z => by rw [atKey_put_other (key_ne hne), h5 z], h6⟩
    · simp only [List.mem_singleton] at hy
      subst hy
      exact ⟨a, c, fun z => by rw [atKey_put_same (k := .string y.nm.toList) hD.isMap trivial], hr⟩

set_option maxHeartbeats 1000000 in
theorem frs_has (w0 : World) (B : Nat) (L : List De) (s : ByteArray) (w : World) (h : FrHeld w0 w B L) (hs : s.size ≤ maxLen) :
    Calls Tryz.prog 130 #[.map (some B), .string s] w fun e w' => e = .returned (.bool (hasNm L s)) ∧ Below w.heap.size w w' := by
  obtain ⟨D, n, hown, hh, hat⟩ := h.at_ s
  have hkey := key_of hs
  obtain ⟨u, hu, x, a, c, rfl⟩ : ∃ u, D.atKey (.string s.toList) (.held (deV de0 .none 0)) = .held u ∧ ∃ x a c, u = deV x a c := by
    rcases hat with ⟨_, hat⟩ | ⟨x, _, a, c, _, _, hat, _⟩
    · exact ⟨_, hat, _, _, _, rfl⟩
    · exact ⟨_, hat, _, _, _, rfl⟩
  clear hat
  generalize hasNm L s = f at *
  go_enter Tryz.func130, Tryz.ntmps130
  unfold deV at hu
  go_wp2_with (first
    | (at_lookup; refine wpList_lookup_held _ rfl _ _ 145 rfl 9 78 law9 Tryz.underlying145 (zeroDef _) B n D rfl hown _ _ rfl hkey _ hu f hh ?_)
    | go_in)
  go_ret
  exact ⟨rfl, by repeat (first | exact Below.refl _ _ | refine Below.setCell ?_ (by first | omega | (simp <;> omega)) _ | refine Below.alloc ?_ (by first | omega | (simp <;> omega)) _)⟩

set_option maxHeartbeats 4000000 in
set_option maxRecDepth 40000 in
theorem frs_of (a : Option Addr) (c : Nat) (l : List De) (w : World) (hr : DeRow 0 w.heap.size w a l) (hb : DefsBd 1048576 l) :
    Calls Tryz.prog 98 #[.agg #[.slice a l.length c]] w fun e w' => ∃ B, e = .returned (.map (some B)) ∧ w.heap.size ≤ B ∧ FrHeld w w' B (frsOf l) ∧ Below w.heap.size w w' := by
  have HR : Hid (DeRow 0 w.heap.size w a l) := hr
  have HB : Hid (DefsBd 1048576 l) := hb
  have hl : l.length ≤ 1048576 := hb.1
  clear hr hb
  have hmk := make_frs (w.alloc (.cells #[.slice a l.length c] 33))
  rw [show (w.alloc (.cells #[.slice a l.length c] 33)).heap.size = w.heap.size + 1 by simp] at hmk
  go_enter Tryz.func98, Tryz.ntmps98
  go_wp2_with fail
  obtain ⟨W, hW⟩ : ∃ W, W = (w.alloc (.cells #[.slice a l.length c] 33)).alloc (.map #[] 0) := ⟨_, rfl⟩
  rw [← hW]
  have B0 : Below w.heap.size w W := by rw [hW]; exact ((Below.refl _ _).alloc (Nat.le_refl _) _).alloc (by simp) _
  have F0 : Hid (FrHeld w W (w.heap.size + 1) (frsOf (l.take 0))) := by
    have := FrHeld.none w (w.alloc (.cells #[.slice a l.length c] 33))
    unfold Hid
    rw [hW, List.take_zero]
    change FrHeld w _ (w.heap.size + 1) []
    simpa using this
  clear hW hmk
  go_loopw [10] (fun i w' => ∃ (k : Nat), k ≤ l.length ∧ i = .int .i64 k ∧ Below w.heap.size w w' ∧ Hid (FrHeld w w' (w.heap.size + 1) (frsOf (l.take k)))) (fun i _ => l.length - (intOf i).toNat)
  case atStart => exact ⟨0, by omega, rfl, B0, F0⟩
  case round =>
    obtain ⟨k, hk, rfl, hb, HF⟩ := hrel
    have hbz := hb.size
    have hBl : w.heap.size + 1 < wr.heap.size := HF.out.lt
    by_cases hlt : k < l.length
    case neg =>
      have HN : Hid (FrHeld w wr (w.heap.size + 1) (frsOf l)) := by have := HF.out; rwa [List.take_of_length_le (by omega)] at this
      go_wp2_with fail
      go_ret
      exact ⟨_, rfl, by omega, HN.out, hb⟩
    obtain ⟨b, o, a3, c3, ha, _, hbl, d0, d1, d2, d3, r3⟩ := DeRow.cells HR.out k hlt
    subst ha
    have e0 := (hb.cell (p := ⟨b, o + k * 4, none⟩) hbl).trans d0
    have e1 := (hb.cell (p := ⟨b, o + k * 4 + 1, none⟩) hbl).trans d1
    have e2 := (hb.cell (p := ⟨b, o + k * 4 + 2, none⟩) hbl).trans d2
    have e3 := (hb.cell (p := ⟨b, o + k * 4 + 3, none⟩) hbl).trans d3
    have R3 : Hid (SelRow 0 w.heap.size w a3 l[k].sels) := r3
    have hsz : l[k].nm.size ≤ 1048576 := (HB.out.2 _ (List.getElem_mem hlt)).1
    clear d0 d1 d2 d3 r3
    have HL : Hid ((frsOf (l.take k)).length ≤ 1048576) := by have := frs_len (l.take k); rw [List.length_take] at this; unfold Hid; omega
    have HT : Hid (frsOf (l.take (k + 1)) = addFr (frsOf (l.take k)) l[k]) := frs_take hlt
    generalize frsOf (l.take k) = L at *
    cases h3 : (l[k].k == 3) with
    | false =>
      have HE : Hid (frsOf (l.take (k + 1)) = L) := by rw [Hid, HT.out]; unfold addFr; rw [h3]; rfl
      go_wp2_with fail
      exact ⟨⟨k + 1, by omega, by go_num, hb.alloc (by omega) _, by rw [HE.out]; exact HF.out.keep (Below.heap_alloc _ _ _ hBl)⟩, by simp [intOf]; omega⟩
    | true =>
    go_wp2_with fail
    refine (frs_has w (w.heap.size + 1) L l[k].nm _ (HF.out.keep (Below.heap_alloc _ _ _ hBl)) (by unfold maxLen; omega)).mono ?_
    rintro e w1 ⟨rfl, hb1⟩
    have z1 : wr.heap.size + 1 ≤ w1.heap.size := by have := hb1.size; simpa using this
    have P1 : Hid (Below wr.heap.size wr w1) := ((Below.refl _ _).alloc (Nat.le_refl _) _).trans (hb1.mono (by simp))
    have H1 : Hid (FrHeld w w1 (w.heap.size + 1) L) := HF.out.keep (P1.out.block _ hBl)
    have k1 := fun o => hb1.cell (p := ⟨wr.heap.size, o, none⟩) (by simp)
    have Q1 : Hid (Below w.heap.size w w1) := hb.trans (P1.out.mono hbz)
    clear hb1 e0 e1 e2 e3
    cases hh : hasNm L l[k].nm with
    | true =>
      have HE : Hid (frsOf (l.take (k + 1)) = L) := by rw [Hid, HT.out]; unfold addFr; rw [h3, hh]; rfl
      go_wp2_with fail
      exact ⟨⟨k + 1, by omega, by go_num, Q1.out, by rw [HE.out]; exact H1.out⟩, by simp [intOf]; omega⟩
    | false =>
    have HE : Hid (frsOf (l.take (k + 1)) = L ++ [l[k]]) := by rw [Hid, HT.out]; unfold addFr; rw [h3, hh]; rfl
    obtain ⟨D, n, hown, hn1, hn2, hn3, hn4⟩ := H1.out
    have HO : Hid _ := hown
    have hkey : keyOf Tryz.prog 9 (.string l[k].nm) = some (.string l[k].nm.toList) := key_of (by unfold maxLen; omega)
    have HP : Hid (∀ W', W'.ownsMap Tryz.prog 9 heldE (w.heap.size + 1) (n + 1) (D.put (.string l[k].nm.toList) (.held (.agg #[.int .i64 l[k].k, .string l[k].nm, .string l[k].on, .slice a3 l[k].sels.len c3]))) → FrHeld w W' (w.heap.size + 1) (L ++ [l[k]])) :=
      fun W' h => FrHeld.put (hown.tidy law9) hh hn1 hn2 hn3 hn4 R3.out h
    have hnm : n < maxLen := by have := HL.out; unfold maxLen; omega
    clear hown hn1 hn2 hn3 hn4 hh H1
    go_wp2_with (first
      | (at_mapUpdate; refine wpList_mapUpdate_in _ rfl _ _ _ 145 rfl 9 78 law9 Tryz.underlying145 heldE (w.heap.size + 1) n D rfl HO.out hnm _ _ _ rfl rfl hkey _ [] rfl ?_; intro w2 hown2 hturn)
      | fail)
    have H2 : Hid (FrHeld w w2 (w.heap.size + 1) (L ++ [l[k]])) := HP.out _ hown2
    have Q2 : Hid (Below w.heap.size w w2) := Q1.out.grown hturn.grown (by omega) (fun k hk => by simp at hk; omega)
    clear hown2 hturn k1
    go_wp2_with fail
    exact ⟨⟨k + 1, by omega, by go_num, Q2.out, by rw [HE.out]; exact H2.out⟩, by simp [intOf]; omega⟩
end Go.Proofs.YtkjndghkimnjeaaGreat
namespace Go.Proofs.YtkjndghkimnjeaaGreat
open Go.ChangeShapes Go.WideShapes Go.ChangeAt Go.RowKit
set_option linter.unusedVariables false

/-- From one to another by one step or more. -/
inductive Rc {α : Type} (E : α → List α) : α → α → Prop
  | one {a b : α} : b ∈ E a → Rc E a b
  | snoc {a b c : α} : Rc E a b → c ∈ E b → Rc E a c
theorem Rc.trans {α : Type} {E : α → List α} {a b c : α} (h : Rc E a b) (h' : Rc E b c) : Rc E a c := by
  induction h' with
  | one h1 => exact .snoc h h1
  | snoc _ h1 ih => exact .snoc ih h1
/-- The first step of a way. -/
theorem Rc.head {α : Type} {E : α → List α} {a c : α} (h : Rc E a c) : ∃ b, b ∈ E a ∧ (b = c ∨ Rc E b c) := by
  induction h with
  | one h1 => exact ⟨_, h1, .inl rfl⟩
  | snoc _ h1 ih =>
    obtain ⟨b, hb, hc⟩ := ih
    rcases hc with rfl | hc
    · exact ⟨_, hb, .inr (.one h1)⟩
    · exact ⟨_, hb, .inr (.snoc hc h1)⟩
theorem Rc.turn {α : Type} {E : α → List α} {a : α} (h : Rc E a a) : ∃ b, b ∈ E a ∧ Rc E b b := by
  obtain ⟨b, hb, hc⟩ := h.head
  rcases hc with rfl | hc
  · exact ⟨_, hb, h⟩
  · exact ⟨b, hb, hc.trans (.one hb)⟩
theorem filter_less {α : Type} (p q : α → Bool) : ∀ (l : List α), (∀ x ∈ l, p x = true → q x = true) → (∃ y ∈ l, q y = true ∧ p y = false) → (l.filter p).length < (l.filter q).length
  | [], _, h => by obtain ⟨y, hy, _⟩ := h; simp at hy
  | x :: l, hs, h => by
    have hle : ∀ (l : List α), (∀ x ∈ l, p x = true → q x = true) → (l.filter p).length ≤ (l.filter q).length := by
      intro l
      induction l with
      | nil => intro _; exact Nat.le_refl _
      | cons z l ih =>
        intro hz
        have h1 := ih fun y hy => hz y (by simp [hy])
        cases hp : p z with
        | true => rw [List.filter_cons_of_pos hp, List.filter_cons_of_pos (hz z (by simp) hp)]; simpa using h1
        | false =>
          rw [List.filter_cons_of_neg (by simp [hp])]
          cases hq : q z with
          | true => rw [List.filter_cons_of_pos hq]; simp; omega
          | false => rw [List.filter_cons_of_neg (by simp [hq])]; exact h1
    obtain ⟨y, hy, hq, hp⟩ := h
    rcases List.mem_cons.1 hy with rfl | hy
    · rw [List.filter_cons_of_neg (by simp [hp]), List.filter_cons_of_pos hq]
      have := hle l fun z hz => hs z (by simp [hz])
      simp; omega
    · have ih := filter_less p q l (fun z hz => hs z (by simp [hz])) ⟨y, hy, hq, hp⟩
      cases hpx : p x with
      | true => rw [List.filter_cons_of_pos hpx, List.filter_cons_of_pos (hs x (by simp) hpx)]; simpa using ih
      | false =>
        rw [List.filter_cons_of_neg (by simp [hpx])]
        cases hqx : q x with
        | true => rw [List.filter_cons_of_pos hqx]; simp; omega
        | false => rw [List.filter_cons_of_neg (by simp [hqx])]; exact ih
/-- If each of some has a next one among them, one of them comes to itself. -/
theorem stuck {α : Type} {E : α → List α} {L : List α} (h0 : L ≠ []) (h : ∀ x ∈ L, ∃ y ∈ L, y ∈ E x) : ∃ n, Rc E n n := by
  refine Classical.byContradiction fun hno => ?_
  have hd : ∀ a b, Decidable (Rc E a b) := fun a b => Classical.propDecidable _
  have key : ∀ n, ∀ x ∈ L, (L.filter fun z => @decide (Rc E x z) (hd x z)).length = n → False := by
    intro n
    induction n using Nat.strongRecOn with
    | _ n ih =>
      intro x hx hn
      obtain ⟨y, hy, hxy⟩ := h x hx
      refine ih _ ?_ y hy rfl
      rw [← hn]
      refine filter_less _ _ L (fun z _ hz => ?_) ⟨y, hy, ?_, ?_⟩
      · have hz : Rc E y z := by simpa using hz
        have : Rc E x z := (Rc.one hxy).trans hz
        simpa using this
      · simpa using (Rc.one hxy : Rc E x y)
      · simp only [decide_eq_false_iff_not]
        intro hc; exact hno ⟨y, hc⟩
  cases L with
  | nil => exact h0 rfl
  | cons x L => exact key _ x (by simp) rfl
theorem nodup_sub {α : Type} [DecidableEq α] : ∀ (l u : List α), l.Nodup → (∀ x ∈ l, x ∈ u) → l.length ≤ u.length
  | [], u, _, _ => Nat.zero_le _
  | x :: l, u, hn, hs => by
    have hx : x ∈ u := hs x (by simp)
    rw [List.nodup_cons] at hn
    have := nodup_sub l (u.erase x) hn.2 fun y hy => by
      have hne : y ≠ x := fun e => hn.1 (e ▸ hy)
      exact (List.mem_erase_of_ne hne).2 (hs y (by simp [hy]))
    rw [List.length_erase_of_mem hx] at this
    have h1 : 0 < u.length := List.length_pos_of_mem hx
    simp; omega
/-- What is closed and holds the first steps holds all that is come to. -/
theorem closed {α : Type} {E : α → List α} {n : α} {S : List α} (h0 : ∀ x ∈ E n, x ∈ S) (h1 : ∀ x ∈ S, ∀ y ∈ E x, y ∈ S) {m : α} (h : Rc E n m) : m ∈ S := by
  induction h with
  | one h => exact h0 _ h
  | snoc _ h ih => exact h1 _ ih _ h

/-- The names that a set spreads, however deep. -/
def sprd : Sels → List ByteArray
  | .nil => []
  | .cons h sub rest => (if (h.k == 2) = true then [h.nm] else []) ++ (sprd sub ++ sprd rest)
def sprdL (s : Sels) : List (List UInt8) := (sprd s).map ByteArray.toList
def isFrL (s : List UInt8) (x : De) : Bool := (x.k == 3) && (x.nm.toList == s)
theorem isFrL_eq (s : ByteArray) : isFrL s.toList = isFr s := rfl
/-- What the fragment of a name spreads. -/
def spE (l : List De) (n : List UInt8) : List (List UInt8) := match l.find? (isFrL n) with
  | none => []
  | some x => sprdL x.sels
/-- Some fragment comes to itself. -/
def Cyc (l : List De) : Prop := ∃ n, Rc (spE l) n n
theorem spE_some {l : List De} {n : List UInt8} {m : List UInt8} (h : m ∈ spE l n) : ∃ x ∈ l, isFrL n x = true ∧ l.find? (isFrL n) = some x := by
  unfold spE at h
  cases hf : l.find? (isFrL n) with
  | none => rw [hf] at h; simp at h
  | some x => exact ⟨x, List.mem_of_find?_eq_some hf, List.find?_some hf, rfl⟩
theorem spE_of {l : List De} {x : De} (h : l.find? (isFr x.nm) = some x) : spE l x.nm.toList = sprdL x.sels := by
  unfold spE; rw [isFrL_eq, h]
theorem sprd_len : ∀ s : Sels, (sprd s).length ≤ s.size
  | .nil => Nat.le_refl _
  | .cons h sub rest => by
    have h1 := sprd_len sub
    have h2 := sprd_len rest
    simp only [sprd, Sels.size, List.length_append]
    split <;> simp <;> omega
/-- All names that are spread in a document. -/
def allSp (l : List De) : List (List UInt8) := l.flatMap fun x => sprdL x.sels
theorem spE_all {l : List De} {n m : List UInt8} (h : m ∈ spE l n) : m ∈ allSp l := by
  obtain ⟨x, hx, _, hf⟩ := spE_some h
  unfold spE at h
  rw [hf] at h
  exact List.mem_flatMap.2 ⟨x, hx, h⟩

/-- Fragments that are left: those that come to themselves are among them. -/
def LeftOK (l L : List De) : Prop := (∀ x ∈ L, l.find? (isFr x.nm) = some x) ∧ ∀ n, Rc (spE l) n n → ∃ x ∈ L, x.nm.toList = n
theorem leftOK_start (l : List De) (hf : ∀ x ∈ frsOf l, l.find? (isFr x.nm) = some x) : LeftOK l (frsOf l) := by
  refine ⟨hf, fun n hn => ?_⟩
  obtain ⟨b, hb, _⟩ := hn.head
  obtain ⟨x, hx, h1, h2⟩ := spE_some hb
  unfold isFrL at h1
  simp only [Bool.and_eq_true, beq_iff_eq] at h1
  have h3 : hasNm (frsOf l) x.nm = true := by
    rw [frs_any]
    refine List.any_eq_true.2 ⟨x, hx, ?_⟩
    unfold isFr; simp [h1.1]
  unfold hasNm at h3
  obtain ⟨y, hy, h4⟩ := List.any_eq_true.1 h3
  exact ⟨y, hy, (beq_iff_eq.1 h4).trans h1.2⟩
/-- One that spreads none of those that are left goes. -/
theorem leftOK_step {l L : List De} {x : De} (h : LeftOK l L) (hx : x ∈ L) (hs : (sprd x.sels).any (hasNm L) = false) : LeftOK l (L.filter fun y => !(y.nm.toList == x.nm.toList)) := by
  refine ⟨fun y hy => h.1 y (List.mem_filter.1 hy).1, fun n hn => ?_⟩
  obtain ⟨y, hy, hyn⟩ := h.2 n hn
  refine ⟨y, List.mem_filter.2 ⟨hy, ?_⟩, hyn⟩
  cases hc : (y.nm.toList == x.nm.toList) with
  | false => rfl
  | true =>
    exfalso
    have e : x.nm.toList = n := by rw [← hyn]; exact (beq_iff_eq.1 hc).symm
    obtain ⟨b, hb, hbb⟩ := hn.turn
    rw [← e, spE_of (h.1 x hx)] at hb
    obtain ⟨z, hz, hzb⟩ := h.2 b hbb
    unfold sprdL at hb
    obtain ⟨s, hs1, hs2⟩ := List.mem_map.1 hb
    have h1 : hasNm L s = true := List.any_eq_true.2 ⟨z, hz, by rw [hzb, hs2]; simp⟩
    have : (sprd x.sels).any (hasNm L) = true := List.any_eq_true.2 ⟨s, hs1, h1⟩
    rw [hs] at this; cases this
theorem leftOK_end {l : List De} (h : LeftOK l []) : ¬ Cyc l := fun ⟨n, hn⟩ => by
  obtain ⟨x, hx, _⟩ := h.2 n hn; simp at hx
theorem left_stuck {l L : List De} (h : LeftOK l L) (h0 : L ≠ []) (hs : ∀ x ∈ L, (sprd x.sels).any (hasNm L) = true) : Cyc l := by
  refine stuck (L := L.map fun x => x.nm.toList) (by cases L <;> simp at h0 ⊢) fun n hn => ?_
  obtain ⟨x, hx, rfl⟩ := List.mem_map.1 hn
  obtain ⟨s, h1, h2⟩ := List.any_eq_true.1 (hs x hx)
  unfold hasNm at h2
  obtain ⟨y, hy, h3⟩ := List.any_eq_true.1 h2
  refine ⟨y.nm.toList, List.mem_map.2 ⟨y, hy, rfl⟩, ?_⟩
  rw [spE_of (h.1 x hx), beq_iff_eq.1 h3]
  exact List.mem_map.2 ⟨s, h1, rfl⟩
theorem filter_lt {L : List De} {x : De} (hx : x ∈ L) : (L.filter fun y => !(y.nm.toList == x.nm.toList)).length < L.length := by
  refine Nat.lt_of_le_of_ne (List.length_filter_le _ _) fun e => ?_
  have := List.length_filter_eq_length_iff.1 e x hx
  simp at this
/-- The names come to from a fragment, gone through one by one. -/
structure SeenOK (l : List De) (n : List UInt8) (k : Nat) (S : List (List UInt8)) : Prop where
  rc : ∀ m ∈ S, Rc (spE l) n m
  first : ∀ m ∈ spE l n, m ∈ S
  done : ∀ j, (h : j < S.length) → j < k → S[j] ≠ n ∧ ∀ m ∈ spE l S[j], m ∈ S
theorem seen_end {l : List De} {n : List UInt8} {S : List (List UInt8)} (h : SeenOK l n S.length S) : ¬ Rc (spE l) n n := fun hn => by
  have := closed (S := S) h.first (fun x hx y hy => by
    obtain ⟨j, hj, rfl⟩ := List.getElem_of_mem hx
    exact (h.done j hj hj).2 y hy) hn
  obtain ⟨j, hj, e⟩ := List.getElem_of_mem this
  exact (h.done j hj hj).1 e
end Go.Proofs.YtkjndghkimnjeaaGreat
namespace Go.Proofs.YtkjndghkimnjeaaGreat
open Go.ChangeShapes Go.WideShapes Go.ChangeAt Go.RowKit
set_option linter.unusedVariables false

/-- A set as a list. -/
def toL : Sels → List (Hd × Sels)
  | .nil => []
  | .cons h sub rest => (h, sub) :: toL rest
theorem toL_len : ∀ s : Sels, (toL s).length = s.len
  | .nil => rfl
  | .cons h sub rest => by simp [toL, Sels.len, toL_len rest]
/-- What stands in a selection; in a spread what it spreads. -/
def frS (l : List De) (n : ByteArray) : Sels := match l.find? (isFr n) with
  | none => .nil
  | some x => x.sels
def inS (l : List De) (x : Hd × Sels) : Sels := if (x.1.k == 2) = true then frS l x.1.nm else x.2
/-- Going through a set that stands in d fields, n selections gone through: the code, and how many then. -/
inductive Lim (l : List De) : List (Hd × Sels) → Nat → Nat → Int → Nat → Prop
  | nil {d n : Nat} : Lim l [] d n 0 n
  | deep {x : Hd × Sels} {r : List (Hd × Sels)} {d n : Nat} : 11 < d → Lim l (x :: r) d n 8 n
  | many {x : Hd × Sels} {r : List (Hd × Sels)} {d n : Nat} : d ≤ 11 → 400 ≤ n → Lim l (x :: r) d n 6 (n + 1)
  | bad {x : Hd × Sels} {r : List (Hd × Sels)} {d n m : Nat} {c : Int} : d ≤ 11 → n < 400 → Lim l (toL (inS l x)) (d + if (x.1.k == 1) = true then 1 else 0) (n + 1) c m → c ≠ 0 → Lim l (x :: r) d n c m
  | ok {x : Hd × Sels} {r : List (Hd × Sels)} {d n m k : Nat} {c : Int} : d ≤ 11 → n < 400 → Lim l (toL (inS l x)) (d + if (x.1.k == 1) = true then 1 else 0) (n + 1) 0 m → Lim l r d m c k → Lim l (x :: r) d n c k
theorem Lim.det {l : List De} {s : List (Hd × Sels)} {d n m : Nat} {c : Int} (h : Lim l s d n c m) : ∀ {c' : Int} {m' : Nat}, Lim l s d n c' m' → c = c' ∧ m = m' := by
  induction h with
  | nil => intro c' m' h'; cases h'; exact ⟨rfl, rfl⟩
  | deep h1 =>
    intro c' m' h'
    cases h' with
    | deep _ => exact ⟨rfl, rfl⟩
    | many h2 _ => omega
    | bad h2 _ _ _ => omega
    | ok h2 _ _ _ => omega
  | many h1 h2 =>
    intro c' m' h'
    cases h' with
    | deep h3 => omega
    | many _ _ => exact ⟨rfl, rfl⟩
    | bad _ h3 _ _ => omega
    | ok _ h3 _ _ => omega
  | bad h1 h2 h3 h4 ih =>
    intro c' m' h'
    cases h' with
    | deep h5 => omega
    | many _ h5 => omega
    | bad _ _ h5 _ => exact ih h5
    | ok _ _ h5 _ => exact absurd (ih h5).1 h4
  | ok h1 h2 h3 h4 ih3 ih4 =>
    intro c' m' h'
    cases h' with
    | deep h5 => omega
    | many _ h5 => omega
    | bad _ _ h5 h6 => exact absurd (ih3 h5).1.symm h6
    | ok _ _ h5 h6 =>
      obtain ⟨_, rfl⟩ := ih3 h5
      exact ih4 h6
theorem Lim.up {l : List De} {s : List (Hd × Sels)} {d n m : Nat} {c : Int} (h : Lim l s d n c m) : n ≤ m := by
  induction h with
  | nil => exact Nat.le_refl _
  | deep _ => exact Nat.le_refl _
  | many _ _ => omega
  | bad _ _ _ _ ih => omega
  | ok _ _ _ _ ih1 ih2 => omega
theorem Lim.top {l : List De} {s : List (Hd × Sels)} {d n m : Nat} {c : Int} (h : Lim l s d n c m) (hn : n ≤ 400) : m ≤ 401 ∧ (c = 0 → m ≤ 400) ∧ (c = 6 → m = 401) := by
  induction h with
  | nil => exact ⟨by omega, fun _ => hn, fun h => by cases h⟩
  | deep _ => exact ⟨by omega, fun h => (by cases h), fun h => by cases h⟩
  | many _ h => exact ⟨by omega, fun h => (by cases h), fun _ => by omega⟩
  | bad _ h _ hc ih => have := ih (by omega); exact ⟨this.1, fun h => absurd h hc, this.2.2⟩
  | ok _ h _ _ ih1 ih2 => have h1 := ih1 (by omega); exact ih2 (h1.2.1 rfl)
theorem Lim.codes {l : List De} {s : List (Hd × Sels)} {d n m : Nat} {c : Int} (h : Lim l s d n c m) : c = 0 ∨ c = 6 ∨ c = 8 := by
  induction h with
  | nil => exact .inl rfl
  | deep _ => exact .inr (.inr rfl)
  | many _ _ => exact .inr (.inl rfl)
  | bad _ _ _ _ ih => exact ih
  | ok _ _ _ _ _ ih => exact ih
/-- How many selections a set has, spreads being what they spread. -/
inductive Ex (l : List De) : List (Hd × Sels) → Nat → Prop
  | nil : Ex l [] 0
  | cons {x : Hd × Sels} {r : List (Hd × Sels)} {a b : Nat} : Ex l (toL (inS l x)) a → Ex l r b → Ex l (x :: r) (1 + a + b)
theorem Lim.ex {l : List De} {s : List (Hd × Sels)} {d n m : Nat} {c : Int} (h : Lim l s d n c m) : c = 0 → ∃ a, Ex l s a ∧ m = n + a := by
  induction h with
  | nil => exact fun _ => ⟨0, .nil, rfl⟩
  | deep _ => exact fun h => by cases h
  | many _ _ => exact fun h => by cases h
  | bad _ _ _ hc _ => exact fun h => absurd h hc
  | ok _ _ _ _ ih1 ih2 =>
    intro hc
    obtain ⟨a, ha, e⟩ := ih1 rfl
    obtain ⟨b, hb, e'⟩ := ih2 hc
    exact ⟨_, .cons ha hb, by omega⟩
theorem Ex.append {l : List De} {s t : List (Hd × Sels)} {a b : Nat} (h : Ex l s a) (h' : Ex l t b) : Ex l (s ++ t) (a + b) := by
  induction h with
  | nil => simpa using h'
  | cons h1 h2 ih1 ih2 =>
    have := Ex.cons h1 ih2
    rwa [show ∀ a b c : Nat, 1 + a + (b + c) = 1 + a + b + c by intros; omega] at this
/-- The fields of a set, inline ones and spreads put in their places. -/
inductive Flat (l : List De) : List (Hd × Sels) → List (Hd × Sels) → Prop
  | nil : Flat l [] []
  | fld {x : Hd × Sels} {r f : List (Hd × Sels)} : (x.1.k == 1) = true → Flat l r f → Flat l (x :: r) (x :: f)
  | oth {x : Hd × Sels} {r f g : List (Hd × Sels)} : (x.1.k == 1) = false → Flat l (toL (inS l x)) g → Flat l r f → Flat l (x :: r) (g ++ f)
theorem Flat.det {l : List De} {s f : List (Hd × Sels)} (h : Flat l s f) : ∀ {f' : List (Hd × Sels)}, Flat l s f' → f = f' := by
  induction h with
  | nil => intro f' h'; cases h'; rfl
  | fld h1 h2 ih =>
    intro f' h'
    cases h' with
    | fld _ h3 => rw [ih h3]
    | oth h3 _ _ => rw [h1] at h3; cases h3
  | oth h1 h2 h3 ih2 ih3 =>
    intro f' h'
    cases h' with
    | fld h4 _ => rw [h1] at h4; cases h4
    | oth _ h5 h6 => rw [ih2 h5, ih3 h6]
/-- Fields, how many selections are in all of them together, and they themselves. -/
inductive ExF (l : List De) : List (Hd × Sels) → Nat → Prop
  | nil : ExF l [] 0
  | cons {x : Hd × Sels} {r : List (Hd × Sels)} {a b : Nat} : (x.1.k == 1) = true → Ex l (toL x.2) a → ExF l r b → ExF l (x :: r) (1 + a + b)
theorem ExF.append {l : List De} {s t : List (Hd × Sels)} {a b : Nat} (h : ExF l s a) (h' : ExF l t b) : ExF l (s ++ t) (a + b) := by
  induction h with
  | nil => simpa using h'
  | cons h0 h1 h2 ih2 =>
    have := ExF.cons h0 h1 ih2
    rwa [show ∀ a b c : Nat, 1 + a + (b + c) = 1 + a + b + c by intros; omega] at this
theorem Ex.flat {l : List De} {s : List (Hd × Sels)} {a : Nat} (h : Ex l s a) : ∃ f m, Flat l s f ∧ ExF l f m ∧ m ≤ a := by
  induction h with
  | nil => exact ⟨[], 0, .nil, .nil, Nat.le_refl _⟩
  | @cons x r a b h1 h2 ih1 ih2 =>
    obtain ⟨f, m, hf, he, hm⟩ := ih2
    cases hk : (x.1.k == 1) with
    | true =>
      have e : inS l x = x.2 := by
        unfold inS
        rw [if_neg]
        rw [beq_iff_eq] at hk
        rw [hk]; decide
      rw [e] at h1
      exact ⟨x :: f, _, .fld hk hf, .cons hk h1 he, by omega⟩
    | false =>
      obtain ⟨g, m', hg, he', hm'⟩ := ih1
      exact ⟨g ++ f, _, .oth hk hg hf, he'.append he, by omega⟩
theorem ExF.len {l : List De} {s : List (Hd × Sels)} {a : Nat} (h : ExF l s a) : s.length ≤ a := by
  induction h with
  | nil => exact Nat.le_refl _
  | cons _ _ _ ih => simp; omega
theorem Ex.len {l : List De} {s : List (Hd × Sels)} {a : Nat} (h : Ex l s a) : s.length ≤ a := by
  induction h with
  | nil => exact Nat.le_refl _
  | cons _ _ ih1 ih2 => simp; omega
/-- The name that a field is answered under. -/
def kyB (h : Hd) : ByteArray := if (h.al.toList == []) = true then h.nm else h.al
def kyL (x : Hd × Sels) : List UInt8 := (kyB x.1).toList
/-- The fields of one key, and their sets one behind the other. -/
def ofK (k : List UInt8) (f : List (Hd × Sels)) : List (Hd × Sels) := f.filter fun x => kyL x == k
def tog (f : List (Hd × Sels)) : List (Hd × Sels) := f.flatMap fun x => toL x.2
theorem ExF.tog {l : List De} {s : List (Hd × Sels)} {a : Nat} (h : ExF l s a) : ∃ b, Ex l (tog s) b ∧ b + s.length ≤ a := by
  induction h with
  | nil => exact ⟨0, .nil, Nat.le_refl _⟩
  | cons h0 h1 h2 ih =>
    obtain ⟨b, hb, hl⟩ := ih
    have h3 := h1.append hb
    rw [Go.Proofs.YtkjndghkimnjeaaGreat.tog] at h3 ⊢
    rw [List.flatMap_cons]
    exact ⟨_, h3, by simp; omega⟩
theorem ExF.filter {l : List De} {s : List (Hd × Sels)} {a : Nat} (h : ExF l s a) (p : Hd × Sels → Bool) : ∃ b, ExF l (s.filter p) b ∧ b ≤ a := by
  induction h with
  | nil => exact ⟨0, .nil, Nat.le_refl _⟩
  | @cons x r a b h0 h1 h2 ih =>
    obtain ⟨c, hc, hl⟩ := ih
    cases hp : p x with
    | true => rw [List.filter_cons_of_pos hp]; exact ⟨_, .cons h0 h1 hc, by omega⟩
    | false => rw [List.filter_cons_of_neg (by simp [hp])]; exact ⟨c, hc, by omega⟩
theorem ExF.group {l : List De} {f : List (Hd × Sels)} {a : Nat} (h : ExF l f a) {x : Hd × Sels} (hx : x ∈ f) : ∃ b, Ex l (Go.Proofs.YtkjndghkimnjeaaGreat.tog (ofK (kyL x) f)) b ∧ b < a := by
  obtain ⟨b, hb, hl⟩ := h.filter fun y => kyL y == kyL x
  obtain ⟨c, hc, hl2⟩ := hb.tog
  have : 0 < (ofK (kyL x) f).length := List.length_pos_of_mem (List.mem_filter.2 ⟨hx, by simp⟩)
  exact ⟨c, hc, by unfold ofK at this; omega⟩
/-- Two fields ask the same. -/
def SameA (x y : Hd) : Prop := x.nm.toList = y.nm.toList ∧ x.args.Perm y.args
theorem SameA.symm {x y : Hd} (h : SameA x y) : SameA y x := ⟨h.1.symm, h.2.symm⟩
theorem SameA.trans {x y z : Hd} (h : SameA x y) (h' : SameA y z) : SameA x z := ⟨h.1.trans h'.1, h.2.trans h'.2⟩
/-- Fields of one key ask the same, and their selections together merge likewise. -/
inductive MOk (l : List De) : List (Hd × Sels) → Prop
  | mk {s f : List (Hd × Sels)} : Flat l s f → (∀ x ∈ f, ∀ y ∈ f, kyL x = kyL y → SameA x.1 y.1) → (∀ x ∈ f, MOk l (tog (ofK (kyL x) f))) → MOk l s
theorem MOk.inv {l : List De} {s f : List (Hd × Sels)} (h : MOk l s) (hf : Flat l s f) : (∀ x ∈ f, ∀ y ∈ f, kyL x = kyL y → SameA x.1 y.1) ∧ ∀ x ∈ f, MOk l (tog (ofK (kyL x) f)) := by
  cases h with
  | mk h1 h2 h3 => rw [hf.det h1]; exact ⟨h2, h3⟩
/-- No argument comes twice, in the set and in those within it. -/
def AOk : Sels → Prop
  | .nil => True
  | .cons h sub rest => (h.args.map fun a => a.nm.toList).Nodup ∧ AOk sub ∧ AOk rest
def AOkL (s : List (Hd × Sels)) : Prop := ∀ x ∈ s, (x.1.args.map fun a => a.nm.toList).Nodup ∧ AOk x.2
theorem AOk.toL : ∀ {s : Sels}, AOk s → AOkL (Go.Proofs.YtkjndghkimnjeaaGreat.toL s)
  | .nil, _ => fun x hx => by simp [Go.Proofs.YtkjndghkimnjeaaGreat.toL] at hx
  | .cons h sub rest, hs => fun x hx => by
    rcases List.mem_cons.1 hx with rfl | hx
    · exact ⟨hs.1, hs.2.1⟩
    · exact AOk.toL hs.2.2 x hx
theorem AOk.inS {l : List De} (hl : ∀ x ∈ l, AOk x.sels) {x : Hd × Sels} (hx : AOk x.2) : AOk (Go.Proofs.YtkjndghkimnjeaaGreat.inS l x) := by
  unfold Go.Proofs.YtkjndghkimnjeaaGreat.inS frS
  split
  · split
    · trivial
    · rename_i y hy; exact hl y (List.mem_of_find?_eq_some hy)
  · exact hx
theorem AOkL.flat {l : List De} (hl : ∀ x ∈ l, AOk x.sels) {s f : List (Hd × Sels)} (h : Flat l s f) : AOkL s → AOkL f := by
  induction h with
  | nil => exact fun h => h
  | fld h1 h2 ih =>
    intro hs y hy
    rcases List.mem_cons.1 hy with rfl | hy
    · exact hs y (by simp)
    · exact ih (fun z hz => hs z (by simp [hz])) y hy
  | oth h1 h2 h3 ih2 ih3 =>
    intro hs y hy
    rcases List.mem_append.1 hy with hy | hy
    · exact ih2 (AOk.inS hl (hs _ (by simp)).2).toL y hy
    · exact ih3 (fun z hz => hs z (by simp [hz])) y hy
theorem AOkL.tog {f : List (Hd × Sels)} (h : AOkL f) : AOkL (Go.Proofs.YtkjndghkimnjeaaGreat.tog f) := fun y hy => by
  unfold Go.Proofs.YtkjndghkimnjeaaGreat.tog at hy
  obtain ⟨x, hx, hxy⟩ := List.mem_flatMap.1 hy
  exact (h x hx).2.toL y hxy
theorem AOkL.ofK {f : List (Hd × Sels)} (h : AOkL f) (k : List UInt8) : AOkL (Go.Proofs.YtkjndghkimnjeaaGreat.ofK k f) := fun y hy => h y (List.mem_filter.1 hy).1
end Go.Proofs.YtkjndghkimnjeaaGreat
