/- Fragments by their names, of several of one name the first: the program's map. -/
import Derived.Test.YtajjaddlalbnmaaDocFind
import Derived.Maps.OwnSet
namespace Go.Proofs.Ytajjaddlalbnmaa
open Go.ChangeShapes Go.WideShapes Go.ChangeAt Go.RowKit Go.Maps
open Go.WideMaps (keyOf_string_mk)
set_option linter.unusedVariables false

def hasNm (L : List De) (s : ByteArray) : Bool := L.any fun y => y.nm.toList == s.toList
def addFr (L : List De) (x : De) : List De := if (x.k == 3) && !hasNm L x.nm then L ++ [x] else L
def frsOf (l : List De) : List De := l.foldl addFr []
theorem frs_take {l : List De} {k : Nat} (hk : k < l.length) : frsOf (l.take (k + 1)) = addFr (frsOf (l.take k)) l[k] := by
  unfold frsOf; rw [List.take_succ_eq_append_getElem hk, List.foldl_append]; rfl
theorem frs_snoc (l : List De) (x : De) : frsOf (l ++ [x]) = addFr (frsOf l) x := by unfold frsOf; rw [List.foldl_append]; rfl
theorem hasNm_add (L : List De) (x : De) (s : ByteArray) : hasNm (addFr L x) s = (hasNm L s || isFr s x) := by
  unfold addFr isFr
  cases h3 : (x.k == 3)
  · simp
  · cases hh : hasNm L x.nm
    · simp only [Bool.not_false, Bool.and_true, if_true, Bool.true_and]
      unfold hasNm; rw [List.any_append]; simp
    · simp only [Bool.not_true, Bool.and_false, Bool.true_and]
      cases he : (x.nm.toList == s.toList)
      · simp
      · rw [beq_iff_eq] at he
        unfold hasNm at hh ⊢
        rw [he] at hh
        simp [hh]
theorem foldl_snoc_ind {α : Type} {P : List α → Prop} (h0 : P []) (h1 : ∀ l x, P l → P (l ++ [x])) : ∀ l, P l := by
  intro l
  have : ∀ n, ∀ l : List α, l.length = n → P l := by
    intro n
    induction n with
    | zero => intro l hl; rw [List.length_eq_zero_iff.1 hl]; exact h0
    | succ n ih =>
      intro l hl
      have hne : l ≠ [] := by intro e; rw [e] at hl; simp at hl
      rw [← List.dropLast_concat_getLast hne]
      exact h1 _ _ (ih _ (by simp [hl]))
  exact this l.length l rfl
theorem frs_any (l : List De) (s : ByteArray) : hasNm (frsOf l) s = l.any (isFr s) := by
  refine foldl_snoc_ind (P := fun l => hasNm (frsOf l) s = l.any (isFr s)) rfl ?_ l
  intro l x ih
  rw [frs_snoc, hasNm_add, ih, List.any_append]
  simp
theorem frs_sub (l : List De) : ∀ x ∈ frsOf l, x ∈ l := by
  refine foldl_snoc_ind (P := fun l => ∀ x ∈ frsOf l, x ∈ l) (by simp [frsOf]) ?_ l
  intro l y ih x hx
  rw [frs_snoc] at hx
  unfold addFr at hx
  split at hx
  · rcases List.mem_append.1 hx with hx | hx
    · exact List.mem_append_left _ (ih x hx)
    · exact List.mem_append_right _ hx
  · exact List.mem_append_left _ (ih x hx)

theorem frs_len (l : List De) : (frsOf l).length ≤ l.length := by
  refine foldl_snoc_ind (P := fun l => (frsOf l).length ≤ l.length) (Nat.le_refl _) ?_ l
  intro l y ih
  rw [frs_snoc]
  unfold addFr
  split <;> simp <;> omega
/-- An element of a map is read as itself. -/
def heldE (v : Value) : Option (DataW Value × List MemPlace) := some (.held v, [])
def FrHeld (w0 w : World) (B : Nat) (L : List De) : Prop := ∃ (D : DataW Value) (n : Nat), w.ownsMap Try.prog 9 heldE B n D ∧ n ≤ L.length ∧ Maps.size D = L.length ∧ (∀ s : ByteArray, Maps.has D (.string s.toList) = hasNm L s) ∧
  ∀ x ∈ L, ∃ a c, (∀ z, D.atKey (.string x.nm.toList) z = .held (deV x a c)) ∧ SelRow 0 w0.heap.size w0 a x.sels
theorem law9 : Keyed Try.prog 9 := string_keyed Try.underlying9
theorem zeroDef (w : World) : (zeroValue 30).run Try.prog w = .ok (deV de0 none 0) w := by kernel_rfl
theorem make_frs (w : World) : (Instr.makeMap 70 none).run Try.prog w = .ok (.map (some w.heap.size)) (w.alloc (.map #[] 0)) := by kernel_rfl
theorem key_of {s : ByteArray} (hs : s.size ≤ maxLen) : keyOf Try.prog 9 (.string s) = some (.string s.toList) := by
  rw [ByteArray.toList_eq]; exact keyOf_string_mk Try.underlying9 hs
theorem key_ne {s t : ByteArray} (h : (t.toList == s.toList) = false) : Lit.string s.toList ≠ Lit.string t.toList := by
  intro e
  simp only [Lit.string.injEq] at e
  rw [e] at h; simp at h
theorem FrHeld.lt {w0 w : World} {B : Nat} {L : List De} (h : FrHeld w0 w B L) : B < w.heap.size := by
  obtain ⟨D, n, h, _⟩ := h
  exact h.lt
theorem FrHeld.keep {w0 w w' : World} {B : Nat} {L : List De} (h : FrHeld w0 w B L) (hb : w'.heap[B]? = w.heap[B]?) : FrHeld w0 w' B L := by
  obtain ⟨D, n, ⟨es, clock, h1, h2⟩, h3⟩ := h
  exact ⟨D, n, ⟨es, clock, hb.trans h1, h2⟩, h3⟩
theorem FrHeld.none (w0 w : World) : FrHeld w0 (w.alloc (.map #[] 0)) w.heap.size [] :=
  ⟨.map [], 0, World.ownsMap_made _ _ _ _, Nat.zero_le _, rfl, fun s => rfl, fun x h => by simp at h⟩
theorem FrHeld.at_ {w0 w : World} {B : Nat} {L : List De} (h : FrHeld w0 w B L) (s : ByteArray) : ∃ (D : DataW Value) (n : Nat), w.ownsMap Try.prog 9 heldE B n D ∧ Maps.has D (.string s.toList) = hasNm L s ∧
    ((hasNm L s = false ∧ D.atKey (.string s.toList) (.held (deV de0 .none 0)) = .held (deV de0 .none 0)) ∨ ∃ x ∈ L, ∃ a c, (x.nm.toList == s.toList) = true ∧ hasNm L s = true ∧ D.atKey (.string s.toList) (.held (deV de0 .none 0)) = .held (deV x a c) ∧ SelRow 0 w0.heap.size w0 a x.sels) := by
  obtain ⟨D, n, h1, _, _, h3, h4⟩ := h
  refine ⟨D, n, h1, h3 s, ?_⟩
  cases hh : hasNm L s with
  | false => exact .inl ⟨rfl, atKey_of_not_has (by rw [h3, hh]) _⟩
  | true =>
    have hc := hh
    unfold hasNm at hc
    rw [List.any_eq_true] at hc
    obtain ⟨x, hx, he⟩ := hc
    obtain ⟨a, c, h5, h6⟩ := h4 x hx
    exact .inr ⟨x, hx, a, c, he, rfl, by rw [← beq_iff_eq.1 he]; exact h5 _, h6⟩
theorem wpList_lookup_held {P : Program} (w : World) {ops : Array Oper} {rest : List Oper} {o : Oper} {a : Act} {Q : Exit → Act → World → Prop} (hg : o.guard = none) (m x : Operand) (t : TypeId) (hop : o.op = Op.lookup t m x true)
    (k e : TypeId) (K : Keyed P k) (ht : P.underlying t = some (.map k e)) {z : Value} (hz : (zeroValue e).run P w = .ok z w) (b n : Nat) (D : DataW Value)
    (hm : a.eval m = .map (some b)) (hown : w.ownsMap P k heldE b n D) (key : Value) (kl : Lit) (hx : a.eval x = key) (hkey : keyOf P k key = some kl) (u : Value) (hu : D.atKey kl (.held z) = .held u) (f : Bool) (hf : Maps.has D kl = f)
    (hK : wpList P ops Q rest (a.put o.dst (.tuple #[u, .bool f])) w) : wpList P ops Q (o :: rest) a w := by
  subst hf
  refine wpList_lookup_own_ok w hg m x t hop k e K ht heldE hz (.held z) [] rfl b n D hm hown key kl hx hkey (fun v ps hv => ?_)
  rw [hu] at hv
  simp only [heldE, Option.some.injEq, Prod.mk.injEq, DataW.held.injEq] at hv
  rw [hv.1]; exact hK
theorem FrHeld.put {w0 w' : World} {B n : Nat} {L : List De} {x : De} {a : Option Addr} {c : Nat} {D : DataW Value} (hD : Tidy D) (hn : hasNm L x.nm = false) (hle : n ≤ L.length) (h0 : Maps.size D = L.length)
    (h1 : ∀ s : ByteArray, Maps.has D (.string s.toList) = hasNm L s) (h2 : ∀ x ∈ L, ∃ a c, (∀ z, D.atKey (.string x.nm.toList) z = .held (deV x a c)) ∧ SelRow 0 w0.heap.size w0 a x.sels) (hr : SelRow 0 w0.heap.size w0 a x.sels)
    (h : w'.ownsMap Try.prog 9 heldE B (n + 1) (D.put (.string x.nm.toList) (.held (deV x a c)))) : FrHeld w0 w' B (L ++ [x]) := by
  refine ⟨_, _, h, by rw [List.length_append]; simpa using hle, ?_, fun s => ?_, fun y hy => ?_⟩
  · rw [size_put hD, h1, hn, h0]; simp
  · by_cases hs : (x.nm.toList == s.toList) = true
    · have e : s.toList = x.nm.toList := by simpa using (beq_iff_eq.1 hs).symm
      rw [e, has_put_same (k := .string x.nm.toList) hD.isMap trivial]
      unfold hasNm; rw [List.any_append]; simp [e]
    · have hs : (x.nm.toList == s.toList) = false := by simpa using hs
      rw [has_put_other (key_ne hs), h1]
      unfold hasNm; rw [List.any_append]; simp [hs]
  · rcases List.mem_append.1 hy with hy | hy
    · obtain ⟨a', c', h5, h6⟩ := h2 y hy
      have hne : (x.nm.toList == y.nm.toList) = false := by
        cases hc : (x.nm.toList == y.nm.toList)
        · rfl
        · have : hasNm L x.nm = true := by
            unfold hasNm; rw [List.any_eq_true]
            exact ⟨y, hy, by rw [beq_iff_eq] at hc; simp [hc]⟩
          rw [hn] at this; cases this
      exact ⟨a', c', fun z => by rw [atKey_put_other (key_ne hne), h5 z], h6⟩
    · simp only [List.mem_singleton] at hy
      subst hy
      exact ⟨a, c, fun z => by rw [atKey_put_same (k := .string y.nm.toList) hD.isMap trivial], hr⟩

set_option maxHeartbeats 1000000 in
theorem frs_has (w0 : World) (B : Nat) (L : List De) (s : ByteArray) (w : World) (h : FrHeld w0 w B L) (hs : s.size ≤ maxLen) :
    Calls Try.prog 56 #[.map (some B), .string s] w fun e w' => e = .returned (.bool (hasNm L s)) ∧ Below w.heap.size w w' := by
  obtain ⟨D, n, hown, hh, hat⟩ := h.at_ s
  have hkey := key_of hs
  obtain ⟨u, hu, x, a, c, rfl⟩ : ∃ u, D.atKey (.string s.toList) (.held (deV de0 .none 0)) = .held u ∧ ∃ x a c, u = deV x a c := by
    rcases hat with ⟨_, hat⟩ | ⟨x, _, a, c, _, _, hat, _⟩
    · exact ⟨_, hat, _, _, _, rfl⟩
    · exact ⟨_, hat, _, _, _, rfl⟩
  clear hat
  generalize hasNm L s = f at *
  go_enter Try.func56, Try.ntmps56
  unfold deV at hu
  go_wp2_with (first
    | (at_lookup; refine wpList_lookup_held _ rfl _ _ 70 rfl 9 30 law9 Try.underlying70 (zeroDef _) B n D rfl hown _ _ rfl hkey _ hu f hh ?_)
    | go_in)
  go_ret
  exact ⟨rfl, by repeat (first | exact Below.refl _ _ | refine Below.setCell ?_ (by first | omega | (simp <;> omega)) _ | refine Below.alloc ?_ (by first | omega | (simp <;> omega)) _)⟩

set_option maxHeartbeats 4000000 in
set_option maxRecDepth 40000 in
theorem frs_of (a : Option Addr) (c : Nat) (l : List De) (w : World) (hr : DeRow 0 w.heap.size w a l) (hb : DefsBd 1048576 l) :
    Calls Try.prog 35 #[.agg #[.slice a l.length c]] w fun e w' => ∃ B, e = .returned (.map (some B)) ∧ w.heap.size ≤ B ∧ FrHeld w w' B (frsOf l) ∧ Below w.heap.size w w' := by
  have HR : Hid (DeRow 0 w.heap.size w a l) := hr
  have HB : Hid (DefsBd 1048576 l) := hb
  have hl : l.length ≤ 1048576 := hb.1
  clear hr hb
  have hmk := make_frs (w.alloc (.cells #[.slice a l.length c] 25))
  rw [show (w.alloc (.cells #[.slice a l.length c] 25)).heap.size = w.heap.size + 1 by simp] at hmk
  go_enter Try.func35, Try.ntmps35
  go_wp2_with fail
  obtain ⟨W, hW⟩ : ∃ W, W = (w.alloc (.cells #[.slice a l.length c] 25)).alloc (.map #[] 0) := ⟨_, rfl⟩
  rw [← hW]
  have B0 : Below w.heap.size w W := by rw [hW]; exact ((Below.refl _ _).alloc (Nat.le_refl _) _).alloc (by simp) _
  have F0 : Hid (FrHeld w W (w.heap.size + 1) (frsOf (l.take 0))) := by
    have := FrHeld.none w (w.alloc (.cells #[.slice a l.length c] 25))
    unfold Hid
    rw [hW, List.take_zero]
    change FrHeld w _ (w.heap.size + 1) []
    simpa using this
  clear hW hmk
  go_loopw [10] (fun i w' => ∃ (k : Nat), k ≤ l.length ∧ i = .int .i64 k ∧ Below w.heap.size w w' ∧ Hid (FrHeld w w' (w.heap.size + 1) (frsOf (l.take k)))) (fun i _ => l.length - (intOf i).toNat)
  case atStart => exact ⟨0, by omega, rfl, B0, F0⟩
  case round =>
    obtain ⟨k, hk, rfl, hb, HF⟩ := hrel
    have hbz := hb.size
    have hBl : w.heap.size + 1 < wr.heap.size := HF.out.lt
    by_cases hlt : k < l.length
    case neg =>
      have HN : Hid (FrHeld w wr (w.heap.size + 1) (frsOf l)) := by have := HF.out; rwa [List.take_of_length_le (by omega)] at this
      go_wp2_with fail
      go_ret
      exact ⟨_, rfl, by omega, HN.out, hb⟩
    obtain ⟨b, o, a3, c3, ha, _, hbl, d0, d1, d2, d3, r3⟩ := DeRow.cells HR.out k hlt
    subst ha
    have e0 := (hb.cell (p := ⟨b, o + k * 4, none⟩) hbl).trans d0
    have e1 := (hb.cell (p := ⟨b, o + k * 4 + 1, none⟩) hbl).trans d1
    have e2 := (hb.cell (p := ⟨b, o + k * 4 + 2, none⟩) hbl).trans d2
    have e3 := (hb.cell (p := ⟨b, o + k * 4 + 3, none⟩) hbl).trans d3
    have R3 : Hid (SelRow 0 w.heap.size w a3 l[k].sels) := r3
    have hsz : l[k].nm.size ≤ 1048576 := (HB.out.2 _ (List.getElem_mem hlt)).1
    clear d0 d1 d2 d3 r3
    have HL : Hid ((frsOf (l.take k)).length ≤ 1048576) := by have := frs_len (l.take k); rw [List.length_take] at this; unfold Hid; omega
    have HT : Hid (frsOf (l.take (k + 1)) = addFr (frsOf (l.take k)) l[k]) := frs_take hlt
    generalize frsOf (l.take k) = L at *
    cases h3 : (l[k].k == 3) with
    | false =>
      have HE : Hid (frsOf (l.take (k + 1)) = L) := by rw [Hid, HT.out]; unfold addFr; rw [h3]; rfl
      go_wp2_with fail
      exact ⟨⟨k + 1, by omega, by go_num, hb.alloc (by omega) _, by rw [HE.out]; exact HF.out.keep (Below.heap_alloc _ _ _ hBl)⟩, by simp [intOf]; omega⟩
    | true =>
    go_wp2_with fail
    refine (frs_has w (w.heap.size + 1) L l[k].nm _ (HF.out.keep (Below.heap_alloc _ _ _ hBl)) (by unfold maxLen; omega)).mono ?_
    rintro e w1 ⟨rfl, hb1⟩
    have z1 : wr.heap.size + 1 ≤ w1.heap.size := by have := hb1.size; simpa using this
    have P1 : Hid (Below wr.heap.size wr w1) := ((Below.refl _ _).alloc (Nat.le_refl _) _).trans (hb1.mono (by simp))
    have H1 : Hid (FrHeld w w1 (w.heap.size + 1) L) := HF.out.keep (P1.out.block _ hBl)
    have k1 := fun o => hb1.cell (p := ⟨wr.heap.size, o, none⟩) (by simp)
    have Q1 : Hid (Below w.heap.size w w1) := hb.trans (P1.out.mono hbz)
    clear hb1 e0 e1 e2 e3
    cases hh : hasNm L l[k].nm with
    | true =>
      have HE : Hid (frsOf (l.take (k + 1)) = L) := by rw [Hid, HT.out]; unfold addFr; rw [h3, hh]; rfl
      go_wp2_with fail
      exact ⟨⟨k + 1, by omega, by go_num, Q1.out, by rw [HE.out]; exact H1.out⟩, by simp [intOf]; omega⟩
    | false =>
    have HE : Hid (frsOf (l.take (k + 1)) = L ++ [l[k]]) := by rw [Hid, HT.out]; unfold addFr; rw [h3, hh]; rfl
    obtain ⟨D, n, hown, hn1, hn2, hn3, hn4⟩ := H1.out
    have HO : Hid _ := hown
    have hkey : keyOf Try.prog 9 (.string l[k].nm) = some (.string l[k].nm.toList) := key_of (by unfold maxLen; omega)
    have HP : Hid (∀ W', W'.ownsMap Try.prog 9 heldE (w.heap.size + 1) (n + 1) (D.put (.string l[k].nm.toList) (.held (.agg #[.int .i64 l[k].k, .string l[k].nm, .string l[k].on, .slice a3 l[k].sels.len c3]))) → FrHeld w W' (w.heap.size + 1) (L ++ [l[k]])) :=
      fun W' h => FrHeld.put (hown.tidy law9) hh hn1 hn2 hn3 hn4 R3.out h
    have hnm : n < maxLen := by have := HL.out; unfold maxLen; omega
    clear hown hn1 hn2 hn3 hn4 hh H1
    go_wp2_with (first
      | (at_mapUpdate; refine wpList_mapUpdate_in _ rfl _ _ _ 70 rfl 9 30 law9 Try.underlying70 heldE (w.heap.size + 1) n D rfl HO.out hnm _ _ _ rfl rfl hkey _ [] rfl ?_; intro w2 hown2 hturn)
      | fail)
    have H2 : Hid (FrHeld w w2 (w.heap.size + 1) (L ++ [l[k]])) := HP.out _ hown2
    have Q2 : Hid (Below w.heap.size w w2) := Q1.out.grown hturn.grown (by omega) (fun k hk => by simp at hk; omega)
    clear hown2 hturn k1
    go_wp2_with fail
    exact ⟨⟨k + 1, by omega, by go_num, Q2.out, by rw [HE.out]; exact H2.out⟩, by simp [intOf]; omega⟩
end Go.Proofs.Ytajjaddlalbnmaa
