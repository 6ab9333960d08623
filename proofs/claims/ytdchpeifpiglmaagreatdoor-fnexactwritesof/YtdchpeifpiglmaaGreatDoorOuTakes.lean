/- The program's OutOK: takes, and all of it. -/
import Derived.Test.YtdchpeifpiglmaaGreatDoorSels
import Derived.Maps.OwnSet
import Derived.Deep.CutBlock
import Derived.Deep.CutRange
namespace Go.Proofs.YtdchpeifpiglmaaGreatDoor.G
open Go.ChangeShapes Go.WideShapes Go.ChangeAt Go.RowKit Go.Maps
open Go.WideMaps (keyOf_string_mk)
set_option linter.unusedVariables false

def seen (ns : List ByteArray) (s : ByteArray) : Bool := ns.any fun t => t.toList == s.toList
/-- All are names, and none comes twice. -/
def OkN (ns : List ByteArray) : Prop := ∀ j (h : j < ns.length), nameB ns[j] = true ∧ seen (ns.take j) ns[j] = false
/-- r is the first place of s, or -1. -/
def Fi (ns : List ByteArray) (s : ByteArray) (r : Int) : Prop := (r = -1 ∧ seen ns s = false) ∨ ∃ j, ∃ h : j < ns.length, r = j ∧ (ns[j].toList == s.toList) = true ∧ seen (ns.take j) s = false
theorem seen_take {ns : List ByteArray} {s : ByteArray} {k : Nat} (hk : k < ns.length) : seen (ns.take (k + 1)) s = (seen (ns.take k) s || (ns[k].toList == s.toList)) := by
  unfold seen; rw [List.take_succ_eq_append_getElem hk, List.any_append]; simp
theorem seen_of {ns : List ByteArray} {s : ByteArray} {k j : Nat} (hk : k < ns.length) (hj : k < j) (h : (ns[k].toList == s.toList) = true) : seen (ns.take j) s = true := by
  unfold seen
  rw [List.any_eq_true]
  exact ⟨ns[k], by rw [List.mem_take_iff_getElem]; exact ⟨k, by omega, rfl⟩, h⟩
theorem seen_of' {ns : List ByteArray} {s : ByteArray} {k : Nat} (hk : k < ns.length) (h : (ns[k].toList == s.toList) = true) : seen ns s = true := by
  unfold seen
  rw [List.any_eq_true]
  exact ⟨ns[k], List.getElem_mem hk, h⟩
theorem Fi.neg {ns : List ByteArray} {s : ByteArray} {r : Int} (h : Fi ns s r) : (r < 0 ∧ seen ns s = false) ∨ (¬ r < 0 ∧ seen ns s = true) := by
  rcases h with ⟨rfl, h⟩ | ⟨j, hj, rfl, h1, h2⟩
  · exact .inl ⟨by omega, h⟩
  · exact .inr ⟨by omega, seen_of' hj h1⟩
theorem Fi.at_ {ns : List ByteArray} {i : Nat} (hi : i < ns.length) {r : Int} (h : Fi ns ns[i] r) : (r = i ∧ seen (ns.take i) ns[i] = false) ∨ (r ≠ i ∧ seen (ns.take i) ns[i] = true) := by
  rcases h with ⟨rfl, h⟩ | ⟨j, hj, rfl, h1, h2⟩
  · have := seen_of' hi (s := ns[i]) (by simp)
    rw [h] at this; cases this
  · by_cases hji : j = i
    · subst hji; exact .inl ⟨rfl, h2⟩
    · by_cases hlt : j < i
      · exact .inr ⟨by omega, seen_of hj hlt h1⟩
      · have := seen_of (s := ns[i]) hi (show i < j by omega) (by simp)
        rw [h2] at this; cases this
theorem OkN.next {ns : List ByteArray} {k : Nat} (hk : k < ns.length) (h : ∀ j (hj : j < ns.length), j < k → nameB ns[j] = true ∧ seen (ns.take j) ns[j] = false) (h1 : nameB ns[k] = true) (h2 : seen (ns.take k) ns[k] = false) :
    ∀ j (hj : j < ns.length), j < k + 1 → nameB ns[j] = true ∧ seen (ns.take j) ns[j] = false := by
  intro j hj hlt
  by_cases hjk : j = k
  · subst hjk; exact ⟨h1, h2⟩
  · exact h j hj (by omega)

/-- A map that holds each of some names at its place. -/
def Held (w : World) (B : Nat) (ns : List ByteArray) : Prop := ∃ D : DataW Unit, w.ownsMap Tryz.prog 9 (plainElem Tryz.prog 3) B ns.length D ∧
  (∀ s : ByteArray, Maps.has D (.string s.toList) = seen ns s) ∧ ∀ i (h : i < ns.length), D.atKey (.string ns[i].toList) (.lit (.int .i64 0)) = .lit (.int .i64 i)
theorem law9 : Keyed Tryz.prog 9 := string_keyed Tryz.underlying9
theorem zero3 (w : World) : (zeroValue 3).run Tryz.prog w = .ok (.int .i64 0) w := by kernel_rfl
theorem make_map (n : Int) (w : World) : (Instr.makeMap 160 (some (.int .i64 n))).run Tryz.prog w = .ok (.map (some w.heap.size)) (w.alloc (.map #[] 0)) := by kernel_rfl
theorem key_of {s : ByteArray} (hs : s.size ≤ maxLen) : keyOf Tryz.prog 9 (.string s) = some (.string s.toList) := by
  rw [ByteArray.toList_eq]; exact keyOf_string_mk Tryz.underlying9 hs
theorem Held.lt {w : World} {B : Nat} {ns : List ByteArray} (h : Held w B ns) : B < w.heap.size := by
  obtain ⟨D, h, _⟩ := h
  exact h.lt
theorem Held.keep {w w' : World} {B C : Nat} {ns : List ByteArray} (h : Held w B ns) (hb : Below C w w') (hB : B < C) : Held w' B ns := by
  obtain ⟨D, ⟨es, clock, h1, h2⟩, h3⟩ := h
  exact ⟨D, ⟨es, clock, (hb.block B hB).trans h1, h2⟩, h3⟩
theorem Held.none (w : World) : Held (w.alloc (.map #[] 0)) w.heap.size [] :=
  ⟨.map [], World.ownsMap_made _ _ _ _, fun s => rfl, fun i h => by simp at h⟩
theorem key_ne {s t : ByteArray} (h : (t.toList == s.toList) = false) : Lit.string s.toList ≠ Lit.string t.toList := by
  intro e
  simp only [Lit.string.injEq] at e
  rw [e] at h; simp at h
theorem Held.put {w' : World} {B : Nat} {ns : List ByteArray} {t : ByteArray} {D : DataW Unit} (hD : IsMap D) (hn : seen ns t = false)
    (h1 : ∀ s : ByteArray, Maps.has D (.string s.toList) = seen ns s) (h2 : ∀ i (h : i < ns.length), D.atKey (.string ns[i].toList) (.lit (.int .i64 0)) = .lit (.int .i64 i))
    (h : w'.ownsMap Tryz.prog 9 (plainElem Tryz.prog 3) B (ns.length + 1) (D.put (.string t.toList) (.lit (.int .i64 ns.length)))) : Held w' B (ns ++ [t]) := by
  refine ⟨_, by rw [List.length_append]; exact h, fun s => ?_, fun i hi => ?_⟩
  · by_cases hs : (t.toList == s.toList) = true
    · have e : s.toList = t.toList := by simpa using (beq_iff_eq.1 hs).symm
      rw [e, has_put_same (k := .string t.toList) hD trivial]
      unfold seen; rw [List.any_append]; simp [e]
    · have hs : (t.toList == s.toList) = false := by simpa using hs
      rw [has_put_other (key_ne hs), h1]
      unfold seen; rw [List.any_append]; simp [hs]
  · by_cases hlt : i < ns.length
    · rw [List.getElem_append_left hlt]
      have hne : (t.toList == ns[i].toList) = false := by
        cases hc : (t.toList == ns[i].toList)
        · rfl
        · have := seen_of' hlt (s := t) (by rw [beq_iff_eq] at hc; simp [hc])
          rw [hn] at this; cases this
      rw [atKey_put_other (key_ne hne), h2 i hlt]
    · have hi' : i = ns.length := by simp at hi; omega
      subst hi'
      rw [List.getElem_append_right (Nat.le_refl _)]
      simp only [Nat.sub_self, List.getElem_cons_zero]
      rw [atKey_put_same (k := .string t.toList) hD trivial]

set_option maxHeartbeats 1000000 in
theorem impl_has (B : Nat) (ns : List ByteArray) (s : ByteArray) (w : World) (h : Held w B ns) (hs : s.size ≤ maxLen) :
    Calls Tryz.prog 122 #[.map (some B), .string s] w fun e w' => e = .returned (.bool (seen ns s)) ∧ Below w.heap.size w w' := by
  obtain ⟨D, hown, hh, _⟩ := h
  have hkey := key_of hs
  have HN : Hid (Maps.has D (.string s.toList) = seen ns s) := hh s
  clear hh
  go_enter Tryz.func122, Tryz.ntmps122
  go_wp2_with (first
    | (at_lookup; refine wpList_lookup_own_ok_int _ rfl _ _ 160 rfl 9 3 .i64 law9 Tryz.underlying160 Tryz.underlying3 (zero3 _) B ns.length _ rfl hown _ _ rfl hkey ?_; intro c hat hwc)
    | go_in)
  go_ret
  exact ⟨ret_bool HN.out, by repeat (first | exact Below.refl _ _ | refine Below.alloc ?_ (by first | omega | (simp <;> omega)) _)⟩

set_option maxHeartbeats 1000000 in
theorem impl_itself (s : ByteArray) (w : World) :
    Calls Tryz.prog 111 #[.string s] w fun e w' => e = .returned (.string s) ∧ Below w.heap.size w w' := by
  go_enter Tryz.func111, Tryz.ntmps111
  go_wp2_with fail
  go_ret
  exact ⟨rfl, Below.refl _ _⟩
set_option maxHeartbeats 2000000 in
set_option maxRecDepth 40000 in
theorem impl_places_str (a : Option Addr) (c : Nat) (l : List ByteArray) (w : World) (hr : KeRow 0 w.heap.size w a l) (hl : l.length ≤ 1048576) (ht : ∀ x ∈ l, x.size ≤ 1048576) :
    Calls Tryz.prog 110 #[.slice a l.length c, .func (.func 111) #[] #[]] w fun e w' => Below w.heap.size w w' ∧
      ((∃ B, e = .returned (.tuple #[.map (some B), .bool true]) ∧ OkN l ∧ w.heap.size ≤ B ∧ Held w' B l) ∨ (e = .returned (.tuple #[.map none, .bool false]) ∧ ¬ OkN l)) := by
  have hmm := make_map l.length w
  have HR : Hid (KeRow 0 w.heap.size w a l) := hr
  have HT : Hid (∀ x ∈ l, x.size ≤ 1048576) := ht
  clear hr ht
  go_enter Tryz.func110, Tryz.ntmps110
  go_wp2_with fail
  clear hmm
  go_loopw [15] (fun i w' => ∃ (k : Nat), k ≤ l.length ∧ i = .int .i64 k ∧ Below w.heap.size w w' ∧ Hid (Held w' w.heap.size (l.take k)) ∧ Hid (∀ j (hj : j < l.length), j < k → nameB l[j] = true ∧ seen (l.take j) l[j] = false)) (fun i _ => l.length - (intOf i).toNat)
  case atStart => exact ⟨0, by omega, rfl, (Below.refl _ _).alloc (Nat.le_refl _) _, Held.none w, fun j hj h => by omega⟩
  case round =>
    rename_i wr
    obtain ⟨k, hk, rfl, hb, HM, HA⟩ := hrel
    by_cases hlt : k < l.length
    · obtain ⟨b, o, ha, _, hbl, d0⟩ := KeRow.cells (KeRow.keep HR.out (agree hb (Nat.le_refl _))) k hlt
      subst ha
      have hlt2 : k < l.length := by simpa using hlt
      have sx : l[k].size ≤ maxLen := by have := HT.out l[k] (List.getElem_mem hlt); unfold maxLen; omega
      have hN := HM.out.lt
      go_wp2_with fail
      refine (impl_itself l[k] _).mono ?_
      rintro e w1 ⟨rfl, hb1⟩
      have p1 : Below wr.heap.size wr w1 := by
        refine Below.trans ?_ (hb1.mono (by first | omega | (simp <;> omega)))
        repeat (first | exact Below.refl _ _ | refine Below.setCell ?_ (by first | omega | (simp <;> omega)) _ | refine Below.alloc ?_ (by first | omega | (simp <;> omega)) _)
      have P1 : Hid _ := p1
      clear hb1 p1
      go_wp2_with fail
      refine (impl_nameOK l[k] _ sx).mono ?_
      cases hm : nameB l[k]
      · rintro e w2 ⟨rfl, hb2⟩
        have HN : Hid (¬ OkN l) := fun h => by have := (h k hlt2).1; rw [hm] at this; cases this
        go_wp2_with fail
        go_ret2
        exact ⟨hb.trans ((P1.out.trans (hb2.mono P1.out.size)).mono hb.size), .inr ⟨rfl, HN.out⟩⟩
      rintro e w2 ⟨rfl, hb2⟩
      have P2 : Hid (Below wr.heap.size wr w2) := P1.out.trans (hb2.mono P1.out.size)
      have HM2 : Hid (Held w2 w.heap.size (l.take k)) := HM.out.keep P2.out hN
      clear hb2
      go_wp2_with fail
      refine (impl_has w.heap.size (l.take k) l[k] _ HM2.out sx).mono ?_
      cases hs : seen (l.take k) l[k]
      case true =>
        rintro e w3 ⟨rfl, hb3⟩
        have HN : Hid (¬ OkN l) := fun h => by have := (h k hlt2).2; rw [hs] at this; cases this
        go_wp2_with fail
        go_ret2
        exact ⟨hb.trans ((P2.out.trans (hb3.mono P2.out.size)).mono hb.size), .inr ⟨rfl, HN.out⟩⟩
      rintro e w3 ⟨rfl, hb3⟩
      have P3 : Hid (Below wr.heap.size wr w3) := P2.out.trans (hb3.mono P2.out.size)
      have HM3 : Hid (Held w3 w.heap.size (l.take k)) := HM2.out.keep hb3 HM2.out.lt
      clear hb3
      obtain ⟨D, hown, h1, h2⟩ := HM3.out
      have htl : (l.take k).length = k := by simp; omega
      rw [htl] at hown
      have H1 : Hid _ := h1
      have H2 : Hid _ := h2
      have hkey := key_of sx
      clear h1 h2
      go_wp2_with (first
        | (at_mapUpdate; refine wpList_mapUpdate_own _ rfl _ _ _ 160 rfl 9 3 law9 Tryz.underlying160 _ w.heap.size k _ rfl hown (by unfold maxLen; omega) _ _ _ rfl rfl hkey _ [] (plainElem_int Tryz.underlying3 (WalkArith.wf_i64 (by omega))) ?_; intro w4 hown4 hgrow4)
        | go_in)
      have HM4 : Hid (Held w4 w.heap.size (l.take (k + 1))) := by
        have := Held.put (w' := w4) (B := w.heap.size) (t := l[k]) (ns := l.take k) (hown.isMap) hs H1.out H2.out (by rw [htl]; exact hown4)
        rw [List.take_succ_eq_append_getElem hlt2]; exact this
      have q4 : Hid (Below w.heap.size w w4) := (hb.trans (P3.out.mono hb.size)).grown hgrow4 (hb.trans (P3.out.mono hb.size)).size (fun j hj => by cases hj; exact Nat.le_refl _)
      have HA2 : Hid _ := OkN.next hlt2 HA.out hm hs
      go_roundw
      case rel => exact ⟨k + 1, by omega, by go_num, q4.out, HM4, HA2⟩
      case measure => simp [intOf]; omega
    · have HN : Hid (OkN l ∧ Held wr w.heap.size l) := by
        have h1 := HM.out
        rw [List.take_of_length_le (by simpa using hlt)] at h1
        exact ⟨fun j hj => HA.out j hj (by omega), h1⟩
      go_wp2_with fail
      go_ret2
      exact ⟨hb, .inl ⟨_, rfl, HN.out.1, Nat.le_refl _, HN.out.2⟩⟩

theorem okN_keys {ns : List ByteArray} : OkN ns ↔ keysB ns = true := by
  constructor
  · intro h; refine keysB_true fun i hi => ?_
    rw [keyB_eq hi, (h i hi).1, show hasK (ns.take i) ns[i] = false from (h i hi).2]; rfl
  · intro h j hj
    have := keysB_at h hj
    rw [keyB_eq hj, Bool.and_eq_true, Bool.not_eq_true'] at this
    exact this
set_option maxHeartbeats 1000000 in
theorem impl_once (a : Option Addr) (c : Nat) (l : List ByteArray) (w : World) (hr : KeRow 0 w.heap.size w a l) (hl : l.length ≤ 1048576) (ht : ∀ x ∈ l, x.size ≤ 1048576) :
    Calls Tryz.prog 92 #[.slice a l.length c] w fun e w' => e = .returned (.bool (keysB l)) ∧ Below w.heap.size w w' := by
  have HR : Hid _ := hr
  have HT : Hid _ := ht
  clear hr ht
  go_enter Tryz.func92, Tryz.ntmps92
  go_wp2_with fail
  refine (impl_places_str a c l _ HR.out hl HT.out).mono ?_
  rintro e w1 ⟨hb1, ⟨B, rfl, hk, _, _⟩ | ⟨rfl, hk⟩⟩
  · have HK : Hid (true = keysB l) := (okN_keys.1 hk).symm
    have HB : Hid _ := hb1
    clear hk hb1
    go_wp2_with fail
    go_ret
    exact ⟨congrArg (fun b => Ending.returned (.bool b)) HK.out, HB.out⟩
  · have HK : Hid (false = keysB l) := by
      cases h : keysB l
      · rfl
      · exact absurd (okN_keys.2 h) hk
    have HB : Hid _ := hb1
    clear hk hb1
    go_wp2_with fail
    go_ret
    exact ⟨congrArg (fun b => Ending.returned (.bool b)) HK.out, HB.out⟩
end Go.Proofs.YtdchpeifpiglmaaGreatDoor.G
namespace Go.Proofs.YtdchpeifpiglmaaGreatDoor.G
open Go.ChangeShapes Go.WideShapes Go.ChangeAt Go.RowKit
set_option linter.unusedVariables false

/-- One value but for its items and the names of its keys. -/
def headA (h : Oh) (sub : Ous) : Bool :=
  if h.k = 0 then plainB h sub && (h.n == 0) && noT h
  else if h.k = 1 then plainB h sub && intO h.n && noT h
  else if h.k = 2 then plainB h sub && (h.n == 0) && nameB h.t
  else if h.k = 3 then (h.n == 0) && noT h && decide (h.keys.length = 0)
  else if h.k = 4 then (h.n == 0) && noT h && decide (h.keys.length = sub.len)
  else false
theorem keysB_none {l : List ByteArray} (h : l.length = 0) : keysB l = true := by unfold keysB; rw [h]; rfl
theorem plain_keys {h : Oh} {sub : Ous} (hp : plainB h sub = true) : keysB h.keys = true := by
  simp only [plainB, Bool.and_eq_true, decide_eq_true_eq] at hp
  exact keysB_none hp.1
theorem head_A (h : Oh) (sub : Ous) : headB h sub = (headA h sub && keysB h.keys) := by
  unfold headB headA
  by_cases k0 : h.k = 0
  · rw [if_pos k0, if_pos k0]; cases hp : plainB h sub; · rfl
    rw [plain_keys hp]; simp
  rw [if_neg k0, if_neg k0]
  by_cases k1 : h.k = 1
  · rw [if_pos k1, if_pos k1]; cases hp : plainB h sub; · rfl
    rw [plain_keys hp]; simp
  rw [if_neg k1, if_neg k1]
  by_cases k2 : h.k = 2
  · rw [if_pos k2, if_pos k2]; cases hp : plainB h sub; · rfl
    rw [plain_keys hp]; simp
  rw [if_neg k2, if_neg k2]
  by_cases k3 : h.k = 3
  · rw [if_pos k3, if_pos k3]
    by_cases hk : h.keys.length = 0
    · rw [keysB_none hk]; simp
    · rw [decide_eq_false hk]; simp
  rw [if_neg k3, if_neg k3]
  by_cases k4 : h.k = 4
  · rw [if_pos k4, if_pos k4]
  · rw [if_neg k4, if_neg k4]; rfl
theorem impl_isIntO (n : Int) (w : World) {B : Bool} (hB : intO n = B) : Calls Tryz.prog 94 #[.int .i64 n] w fun e w' => e = .returned (.bool B) ∧ Below w.heap.size w w' := by
  have HB : Hid _ := hB
  clear hB
  go_enter Tryz.func94, Tryz.ntmps94
  go_wp2
  all_goals (go_ret; exact ⟨ret_bool (by rw [← HB.out]; unfold intO; rw [Bool.eq_iff_iff]; simp; omega), Below.refl _ _⟩)
theorem impl_nameB (s : ByteArray) (w : World) (hs : s.size ≤ maxLen) {B : Bool} (hB : nameB s = B) : Calls Tryz.prog 88 #[.string s] w fun e w' => e = .returned (.bool B) ∧ Below w.heap.size w w' := by
  rw [← hB]; exact impl_nameOK s w hs
set_option maxHeartbeats 8000000 in
set_option maxRecDepth 20000 in
theorem impl_alone (h : Oh) (sub : Ous) (a1 a2 : Option Addr) (c1 c2 : Nat) (w : World) (ht : h.t.size ≤ maxLen) :
    Calls Tryz.prog 91 #[.agg #[.int .i64 h.k, .int .i64 h.n, .string h.t, .slice a1 h.keys.length c1, .slice a2 sub.len c2]] w fun e w' => e = .returned (.bool (headA h sub)) ∧ Below w.heap.size w w' := by
  obtain ⟨V, hV⟩ : ∃ V, V = w.alloc (.cells #[.int .i64 h.k, .int .i64 h.n, .string h.t, .slice a1 h.keys.length c1, .slice a2 sub.len c2] 44) := ⟨_, rfl⟩
  have B0 : Below w.heap.size w V := by rw [hV]; exact (Below.refl _ _).alloc (Nat.le_refl _) _
  have c0 : V.heap[w.heap.size]? = some (.cells #[.int .i64 h.k, .int .i64 h.n, .string h.t, .slice a1 h.keys.length c1, .slice a2 sub.len c2] 44 (0, 0)) := by rw [hV]; exact heap_alloc_new _ _
  have zV := (Array.getElem?_eq_some_iff.1 c0).1
  have x0 := fun o => row_cell c0 o
  have BV : Hid (Below w.heap.size w V) := B0
  have KV : Hid (∀ W, Below V.heap.size V W → Below w.heap.size w W) := fun W hW => B0.trans (hW.mono B0.size)
  have HC0 : Hid (∀ W, Below V.heap.size V W → W.heap[w.heap.size]? = some (.cells #[.int .i64 h.k, .int .i64 h.n, .string h.t, .slice a1 h.keys.length c1, .slice a2 sub.len c2] 44 (0, 0))) := fun W hW => (hW.block _ zV).trans c0
  clear c0 B0
  go_enter Tryz.func91, Tryz.ntmps91
  go_upto_region 1 with fail
  rw [← hV]
  clear hV
  go_cut [3] from 4 to 13 (fun u wx => u = .bool (plainB h sub) ∧ wx = V)
  case first =>
    by_cases p1 : h.keys.length = 0
    · by_cases p2 : sub.len = 0
      · have HP : Hid (plainB h sub = true) := by simp [Hid, plainB, p1, p2]
        have q1 : ((h.keys.length : Int) == 0) = true := by simp [p1]
        have q2 : ((sub.len : Int) == 0) = true := by simp [p2]
        clear p1 p2
        go_wp2_with fail
        go_meet
        exact ⟨by rw [HP.out], rfl⟩
      · have HP : Hid (plainB h sub = false) := by simp [Hid, plainB, p2]
        have q1 : ((h.keys.length : Int) == 0) = true := by simp [p1]
        have q2 : ((sub.len : Int) == 0) = false := by simp; omega
        clear p1 p2
        go_wp2_with fail
        go_meet
        exact ⟨by rw [HP.out], rfl⟩
    · have HP : Hid (plainB h sub = false) := by
        unfold Hid plainB; rw [decide_eq_false p1]; rfl
      have q1 : ((h.keys.length : Int) == 0) = false := beq_eq_false_iff_ne.2 (by omega)
      clear p1
      go_wp2_with fail
      go_meet
      exact ⟨by rw [HP.out], rfl⟩
  obtain ⟨rfl, hwc⟩ := hcut
  rw [hwc]
  clear hwc
  by_cases k0 : h.k = 0
  · have HH : Hid (headA h sub = (plainB h sub && (h.n == 0) && noT h)) := by unfold Hid headA; rw [if_pos k0]
    rw [k0] at x0
    clear k0
    cases hp : plainB h sub <;> cases hn : (h.n == 0) <;> cases ht2 : h.t.toList.isEmpty
    all_goals
      have HR : Hid _ := HH.out
      rw [hp, hn, noT, ht2] at HR
      go_wp2_with fail
      go_ret
      exact ⟨ret_bool HR.out.symm, BV.out⟩
  have k0' : (h.k == 0) = false := beq_eq_false_iff_ne.2 k0
  by_cases k1 : h.k = 1
  · have HH : Hid (headA h sub = (plainB h sub && intO h.n && noT h)) := by unfold Hid headA; rw [if_neg k0, if_pos k1]
    rw [k1] at x0
    clear k0 k1 k0'
    cases hi : intO h.n <;> cases hp : plainB h sub <;> cases ht2 : h.t.toList.isEmpty
    all_goals
      have HR : Hid _ := HH.out
      rw [hp, hi, noT, ht2] at HR
      have HI : Hid _ := hi
      clear hi
      go_wp2_with fail
      refine (impl_isIntO _ _ HI.out).mono ?_
      rintro e w1 ⟨rfl, hb1⟩
      have HB1 : Hid (Below w.heap.size w w1) := KV.out _ hb1
      have x1 := fun o => row_cell (HC0.out _ hb1) o
      clear hb1
      go_wp2_with fail
      go_ret
      exact ⟨ret_bool HR.out.symm, HB1.out⟩
  have k1' : (h.k == 1) = false := beq_eq_false_iff_ne.2 k1
  by_cases k2 : h.k = 2
  · have HH : Hid (headA h sub = (plainB h sub && (h.n == 0) && nameB h.t)) := by unfold Hid headA; rw [if_neg k0, if_neg k1, if_pos k2]
    rw [k2] at x0
    clear k0 k1 k2 k0' k1'
    cases hn : (h.n == 0)
    · have HR : Hid (headA h sub = false) := by rw [Hid, HH.out, hn]; simp
      go_wp2_with fail
      go_ret
      exact ⟨ret_bool HR.out.symm, BV.out⟩
    cases hi : nameB h.t <;> cases hp : plainB h sub
    all_goals
      have HR : Hid _ := HH.out
      rw [hp, hn, hi] at HR
      have HI : Hid _ := hi
      clear hi
      go_wp2_with fail
      refine (impl_nameB _ _ ht HI.out).mono ?_
      rintro e w1 ⟨rfl, hb1⟩
      have HB1 : Hid (Below w.heap.size w w1) := KV.out _ hb1
      have x1 := fun o => row_cell (HC0.out _ hb1) o
      clear hb1
      go_wp2_with fail
      go_ret
      exact ⟨ret_bool HR.out.symm, HB1.out⟩
  have k2' : (h.k == 2) = false := beq_eq_false_iff_ne.2 k2
  by_cases k3 : h.k = 3
  · have HH : Hid (headA h sub = ((h.n == 0) && noT h && decide (h.keys.length = 0))) := by unfold Hid headA; rw [if_neg k0, if_neg k1, if_neg k2, if_pos k3]
    rw [k3] at x0
    clear k0 k1 k2 k3 k0' k1' k2'
    by_cases hk : h.keys.length = 0
    · have hk' : ((h.keys.length : Int) == 0) = true := by simp [hk]
      rw [decide_eq_true hk] at HH
      clear hk
      cases hn : (h.n == 0) <;> cases ht2 : h.t.toList.isEmpty
      all_goals
        have HR : Hid _ := HH.out
        rw [hn, noT, ht2] at HR
        go_wp2_with fail
        go_ret
        exact ⟨ret_bool HR.out.symm, BV.out⟩
    · have hk' : ((h.keys.length : Int) == 0) = false := beq_eq_false_iff_ne.2 (by omega)
      rw [decide_eq_false hk] at HH
      clear hk
      cases hn : (h.n == 0) <;> cases ht2 : h.t.toList.isEmpty
      all_goals
        have HR : Hid _ := HH.out
        rw [hn, noT, ht2] at HR
        go_wp2_with fail
        go_ret
        exact ⟨ret_bool HR.out.symm, BV.out⟩
  have k3' : (h.k == 3) = false := beq_eq_false_iff_ne.2 k3
  by_cases k4 : h.k = 4
  · have HH : Hid (headA h sub = ((h.n == 0) && noT h && decide (h.keys.length = sub.len))) := by unfold Hid headA; rw [if_neg k0, if_neg k1, if_neg k2, if_neg k3, if_pos k4]
    rw [k4] at x0
    clear k0 k1 k2 k3 k4 k0' k1' k2' k3'
    by_cases hk : h.keys.length = sub.len
    · have hk' : ((h.keys.length : Int) == sub.len) = true := by simp [hk]
      rw [decide_eq_true hk] at HH
      clear hk
      cases hn : (h.n == 0) <;> cases ht2 : h.t.toList.isEmpty
      all_goals
        have HR : Hid _ := HH.out
        rw [hn, noT, ht2] at HR
        go_wp2_with fail
        go_ret
        exact ⟨ret_bool HR.out.symm, BV.out⟩
    · have hk' : ((h.keys.length : Int) == sub.len) = false := beq_eq_false_iff_ne.2 (by omega)
      rw [decide_eq_false hk] at HH
      clear hk
      cases hn : (h.n == 0) <;> cases ht2 : h.t.toList.isEmpty
      all_goals
        have HR : Hid _ := HH.out
        rw [hn, noT, ht2] at HR
        go_wp2_with fail
        go_ret
        exact ⟨ret_bool HR.out.symm, BV.out⟩
  have k4' : (h.k == 4) = false := beq_eq_false_iff_ne.2 k4
  have HR : Hid (headA h sub = false) := by unfold Hid headA; rw [if_neg k0, if_neg k1, if_neg k2, if_neg k3, if_neg k4]
  go_wp2_with fail
  go_ret
  exact ⟨ret_bool HR.out.symm, BV.out⟩
end Go.Proofs.YtdchpeifpiglmaaGreatDoor.G
namespace Go.Proofs.YtdchpeifpiglmaaGreatDoor.G
open Go.ChangeShapes Go.WideShapes Go.ChangeAt Go.RowKit
set_option linter.unusedVariables false

/-- What is there stays, but for one block. -/
structure KpO (B : Nat) (w w' : World) : Prop where
  below : Below B w w'
  block : ∀ g, g < w.heap.size → g ≠ B → w'.heap[g]? = w.heap[g]?
theorem KpO.refl (B : Nat) (w : World) : KpO B w w := ⟨Below.refl _ _, fun _ _ _ => rfl⟩
theorem KpO.trans {B : Nat} {w w1 w2 : World} (h : KpO B w w1) (h' : KpO B w1 w2) : KpO B w w2 :=
  ⟨h.below.trans h'.below, fun g hg hn => (h'.block g (Nat.lt_of_lt_of_le hg h.below.size) hn).trans (h.block g hg hn)⟩
theorem KpO.of {B : Nat} {w w' : World} (h : Below w.heap.size w w') (hB : B ≤ w.heap.size) : KpO B w w' := ⟨h.mono hB, fun g hg _ => h.block g hg⟩
theorem KpO.set (B o : Nat) (w : World) (v : Value) : KpO B w (w.setCell ⟨B, o, none⟩ v) := ⟨Below.setCell (p := ⟨B, o, none⟩) (Below.refl B w) (Nat.le_refl B) v, fun g _ hn => Below.heap_setCell _ _ _ _ hn⟩
def RmAt (w : World) (B : Nat) (L : Int) : Prop := w.heap[B]? = some (.cells #[.int .i64 L] 117 (0, 0))
theorem RmAt.str {w : World} {B : Nat} {L : Int} (h : RmAt w B L) {n : Nat} {s : ByteArray} (hs : rdOf w B n = some (.string s)) : False := by
  rw [row_rd h] at hs
  rcases n with _ | n <;> simp at hs
theorem RmAt.lt {w : World} {B : Nat} {L : Int} (h : RmAt w B L) : B < w.heap.size := (Array.getElem?_eq_some_iff.1 h).1
theorem RmAt.keep {w w' : World} {B : Nat} {L : Int} (h : RmAt w B L) (hb : Below w.heap.size w w') : RmAt w' B L := (hb.block B h.lt).trans h
/-- Rows outlive a turn of the room. -/
theorem KeRow.but {hi : Nat} {w w' : World} {B : Nat} {L : Int} (hB : RmAt w B L) (hk : KpO B w w') (hh : hi ≤ w.heap.size) {a : Option Addr} {l : List ByteArray} (h : KeRow 0 hi w a l) : KeRow 0 hi w' a l := by
  rcases h with h | ⟨b, o, e, h1, h2, h3⟩
  · exact .inl h
  · by_cases hl : l = []
    · exact .inl hl
    · have hp : 0 < l.length := List.length_pos_iff.2 hl
      have hne : b ≠ B := fun e => by
        subst e
        exact hB.str (h3 0 l[0] (List.getElem?_eq_getElem hp))
      have hr : rdOf w' b = rdOf w b := by funext j; simp only [rdOf, World.cell?, hk.block b (by omega) hne]
      exact .inr ⟨b, o, e, h1, h2, fun i x hx => by rw [hr]; exact h3 i x hx⟩
theorem OuPre.but {hi : Nat} {w w' : World} {B : Nat} {L : Int} (hB : RmAt w B L) (hk : KpO B w w') (hh : hi ≤ w.heap.size) : ∀ {l : Ous} {rd : Nat → Option Value} {o k : Nat}, OuPre 0 hi w l rd o k → OuPre 0 hi w' l rd o k
  | .nil, _, _, _, _ => trivial
  | .cons h sub rest, rd, o, k, hp => by
    rcases hp with hp | ⟨⟨q0, q1, q2, a, c, q3, qc, q4⟩, ⟨a', c', p2, p3⟩, p4⟩
    · exact .inl hp
    · refine .inr ⟨⟨q0, q1, q2, a, c, q3, qc, KeRow.but hB hk hh q4⟩, ⟨a', c', p2, ?_⟩, OuPre.but hB hk hh p4⟩
      rcases p3 with p3 | ⟨b, o', e, e1, e2, p3⟩
      · exact .inl p3
      · cases sub with
        | nil => exact .inl rfl
        | cons h' sub' rest' =>
          have hne : b ≠ B := fun e => by
            subst e
            rcases p3 with p3 | ⟨⟨_, _, s2, _⟩, _⟩
            · simp [Ous.len] at p3
            · exact hB.str s2
          have hr : rdOf w' b = rdOf w b := by funext j; simp only [rdOf, World.cell?, hk.block b (by omega) hne]
          exact .inr ⟨b, o', e, e1, e2, by rw [hr]; exact OuPre.but hB hk hh p3⟩
theorem OuFrom.but {hi : Nat} {w w' : World} {B : Nat} {L : Int} (hB : RmAt w B L) (hk : KpO B w w') (hh : hi ≤ w.heap.size) {a : Option Addr} {k : Nat} {l : Ous} (h : OuFrom 0 hi w a k l) : OuFrom 0 hi w' a k l := by
  rcases h with h | ⟨b, o, e, e1, e2, p3⟩
  · exact .inl h
  · cases l with
    | nil => exact .inl rfl
    | cons h' sub' rest' =>
      have hne : b ≠ B := fun e => by
        subst e
        rcases p3 with p3 | ⟨⟨_, _, s2, _⟩, _⟩
        · simp [Ous.len] at p3
        · exact hB.str s2
      have hr : rdOf w' b = rdOf w b := by funext j; simp only [rdOf, World.cell?, hk.block b (by omega) hne]
      exact .inr ⟨b, o, e, e1, e2, by rw [hr]; exact OuPre.but hB hk hh p3⟩
/-- What takes tells. -/
def TakS (w : World) (B : Nat) (L : Int) (d : Nat) (l : Ous) (e : Ending) (w' : World) : Prop :=
  ∃ (L' : Int) (b : Bool), e = .returned (.bool b) ∧ b = (okO d l && decide ((l.size : Int) ≤ L)) ∧ 0 ≤ L' ∧ L' ≤ 4000 ∧ RmAt w' B L' ∧ (b = true → L' = L - l.size) ∧ KpO B w w'
def Takes (d : Nat) : Prop := ∀ (l : Ous) (a : Option Addr) (c B : Nat) (L D : Int) (w : World), D = 20 - (d : Int) → RmAt w B L → 0 ≤ L → L ≤ 4000 → OuRow 0 w.heap.size w a l → l.len ≤ 1048576 → OusBd 1048576 l →
    Calls Tryz.prog 72 #[.pointer (some ⟨B, 0, none⟩), .int .i64 D, .slice a l.len c] w fun e w' => TakS w B L d l e w'
theorem okO_nil (d : Nat) : okO d .nil = true := by cases d <;> rfl
theorem oneO_head {d : Nat} {h : Oh} {sub : Ous} : oneO (d + 1) h sub = (headA h sub && keysB h.keys && okO d sub) := by
  rw [oneO, head_A, Nat.add_sub_cancel]; simp
set_option maxHeartbeats 8000000 in
set_option maxRecDepth 20000 in
theorem impl_takes : ∀ d : Nat, d ≤ 20 → Takes d := by
  intro d
  induction d with
  | zero =>
    intro _ l a c B L D w hD hB hL0 hL1 hr hl hs
    have HB : Hid _ := hB
    have hD' : D = 20 := by omega
    subst hD'
    clear hB hr hs hD
    cases l with
    | nil =>
      have HF : Hid (TakS w B L 0 .nil (.returned (.bool true)) w) := ⟨L, true, rfl, by simp [okO, Ous.size, hL0], hL0, hL1, HB.out, fun _ => by simp [Ous.size], KpO.refl _ _⟩
      simp only [Ous.len]
      go_enter Tryz.func72, Tryz.ntmps72
      go_wp2_with fail
      go_ret
      exact HF.out
    | cons h sub rest =>
      have HF : Hid (TakS w B L 0 (.cons h sub rest) (.returned (.bool false)) w) := ⟨L, false, rfl, by simp [okO], hL0, hL1, HB.out, fun e => (by cases e), KpO.refl _ _⟩
      have hp : (((Ous.cons h sub rest).len : Int) == 0) = false := by simp [Ous.len]; omega
      generalize hll : (Ous.cons h sub rest).len = n at hl hp ⊢
      clear hll
      go_enter Tryz.func72, Tryz.ntmps72
      go_wp2_with fail
      go_ret
      exact HF.out
  | succ d ih =>
    intro hd l a c B L D w hD hB hL0 hL1 hr hl hs
    have HB : Hid _ := hB
    have HR : Hid (OuFrom 0 w.heap.size w a 0 l) := hr.from_
    have HS : Hid _ := hs
    have IH : Hid (Takes d) := ih (by omega)
    have HD : Hid (D + 1 = 20 - (d : Int)) := by unfold Hid; omega
    have hD1 : 0 ≤ D ∧ D ≤ 19 := by omega
    obtain ⟨hD0, hD1⟩ := hD1
    have zB := hB.lt
    clear hB hr hs ih hD
    by_cases hn : l.len = 0
    · have HF : Hid (TakS w B L (d + 1) l (.returned (.bool true)) w) := by
        rw [Ous.nil_of hn]
        exact ⟨L, true, rfl, by simp [okO, Ous.size, hL0], hL0, hL1, HB.out, fun _ => by simp [Ous.size], KpO.refl _ _⟩
      have hn' : ((l.len : Int) == 0) = true := by simp [hn]
      clear hn
      go_enter Tryz.func72, Tryz.ntmps72
      go_wp2_with fail
      go_ret
      exact HF.out
    have hn' : ((l.len : Int) == 0) = false := beq_eq_false_iff_ne.2 (by omega)
    have cB := fun o => row_cell HB.out o
    have cf := fun o => row_frozen HB.out o
    clear hn
    by_cases hbig : L < l.len
    · have HF : Hid (TakS w B L (d + 1) l (.returned (.bool false)) w) := by
        refine ⟨L, false, rfl, ?_, hL0, hL1, HB.out, fun e => (by cases e), KpO.refl _ _⟩
        have := l.len_le_size
        rw [decide_eq_false (by omega)]; simp
      go_enter Tryz.func72, Tryz.ntmps72
      go_wp2_with fail
      go_ret
      exact HF.out
    obtain ⟨L1, hL1'⟩ : ∃ L1 : Int, L1 = L - l.len := ⟨_, rfl⟩
    obtain ⟨V, hV⟩ : ∃ V, V = w.setCell ⟨B, 0, none⟩ (.int .i64 L1) := ⟨_, rfl⟩
    have HBV : Hid (RmAt V B L1) := by rw [hV]; exact row_set HB.out 0 (.int .i64 L1)
    have HKV : Hid (KpO B w V) := by rw [hV]; exact KpO.set B 0 w _
    have HL1 : Hid (L1 = L - l.len) := hL1'
    have hL1a : 0 ≤ L1 := by omega
    have hL1b : L1 ≤ 4000 := by omega
    have HRV : Hid (OuFrom 0 V.heap.size V a 0 l) := OuFrom.wide (OuFrom.but HB.out HKV.out (Nat.le_refl _) HR.out) (Nat.le_refl _) HKV.out.below.size
    have zV : B < V.heap.size := HBV.out.lt
    go_enter Tryz.func72, Tryz.ntmps72
    go_upto_region 6 with fail
    rw [← hL1', ← hV]
    clear hL1' hV cB cf HR
    go_wp2_with fail
    go_loopw [34] (fun x w' => ∃ (i : Nat) (q : Int) (rest : Ous), x = .int .i64 i ∧ i + rest.len = l.len ∧ 0 ≤ q ∧ q ≤ 4000 ∧ Hid (RmAt w' B q) ∧ Hid (KpO B V w') ∧ Hid (OuFrom 0 V.heap.size w' a i rest) ∧ Hid (OusBd 1048576 rest) ∧ Hid (q - ((rest.size : Int) - rest.len) = L - l.size) ∧ Hid (okO (d + 1) l = okO (d + 1) rest)) (fun x _ => l.len - (intOf x).toNat)
    case atStart => exact ⟨0, L1, l, rfl, by omega, hL1a, hL1b, HBV, KpO.refl _ _, HRV, HS, by have := HL1.out; unfold Hid; omega, rfl⟩
    case round =>
      obtain ⟨wo, rfl⟩ : ∃ x, x = wr := ⟨_, rfl⟩
      obtain ⟨i, q, rest, rfl, hi, hq1, hq2, HQ, HK, HF, HD3, HSZ, HO⟩ := hrel
      have hzo := HK.out.below.size
      have HKW : Hid (KpO B w wo) := HKV.out.trans HK.out
      cases rest with
      | nil =>
        simp only [Ous.len, Nat.add_zero] at hi
        have HFIN : Hid (TakS w B L (d + 1) l (.returned (.bool true)) wo) := by
          have h1 := HSZ.out
          simp only [Ous.size, Ous.len] at h1
          refine ⟨q, true, rfl, ?_, hq1, hq2, HQ.out, fun _ => by omega, HKW.out⟩
          rw [HO.out, okO_nil, decide_eq_true (by omega)]; rfl
        have hnl : ¬ (i : Int) < l.len := by omega
        clear hi
        go_wp2_with fail
        go_ret
        exact HFIN.out
      | cons h sub rest =>
        have hlt : (i : Int) < l.len := by simp only [Ous.len] at hi; omega
        obtain ⟨b, o, a1, c1, a2, c2, ha, _, hbl, d0, d1, d2, d3, d4, hc, r1, r2, rf⟩ := OuFrom.step HF.out
        subst ha
        obtain ⟨g1, g2, g3, g4⟩ := HD3.out
        obtain ⟨g11, g12, g13⟩ := g1
        have G13 : Hid _ := g13
        have E3 : Hid (OusBd 1048576 sub) := g3
        have E4 : Hid (OusBd 1048576 rest) := g4
        have HOR : Hid (okO (d + 1) (.cons h sub rest) = (headA h sub && keysB h.keys && okO d sub && okO (d + 1) rest)) := by
          rw [Hid, okO_cons, oneO_head]
        have R1 : Hid (KeRow 0 wo.heap.size wo a1 h.keys) := KeRow.wide r1 (Nat.le_refl _) hzo
        have R2 : Hid (OuRow 0 wo.heap.size wo a2 sub) := OuRow.wide r2 (Nat.le_refl _) hzo
        have RF : Hid (OuFrom 0 V.heap.size wo (some ⟨b, o, none⟩) (i + 1) rest) := rf
        have hT1 : h.t.size ≤ maxLen := by unfold maxLen; omega
        have zo : B < wo.heap.size := HQ.out.lt
        obtain ⟨U, hU⟩ : ∃ U, U = wo.alloc (.cells #[.int .i64 h.k, .int .i64 h.n, .string h.t, .slice a1 h.keys.length c1, .slice a2 sub.len c2] 44) := ⟨_, rfl⟩
        have BU : Below wo.heap.size wo U := by rw [hU]; exact (Below.refl _ _).alloc (Nat.le_refl _) _
        have c0 : U.heap[wo.heap.size]? = some (.cells #[.int .i64 h.k, .int .i64 h.n, .string h.t, .slice a1 h.keys.length c1, .slice a2 sub.len c2] 44 (0, 0)) := by rw [hU]; exact heap_alloc_new _ _
        have x0 := fun o => row_cell c0 o
        have HBU : Hid _ := BU
        have HC0 : Hid _ := c0
        have zU : wo.heap.size < U.heap.size := (Array.getElem?_eq_some_iff.1 c0).1
        clear g13 g3 g4 r1 r2 rf BU c0 HF
        go_upto_region 9 with fail
        rw [← hU]
        clear hU
        go_wp2_with fail
        refine (impl_alone h sub a1 a2 c1 c2 _ hT1).mono ?_
        rintro e w1 ⟨rfl, hb1⟩
        have HB1 : Hid (Below wo.heap.size wo w1) := HBU.out.trans (hb1.mono HBU.out.size)
        have HC1 : Hid (w1.heap[wo.heap.size]? = some (.cells #[.int .i64 h.k, .int .i64 h.n, .string h.t, .slice a1 h.keys.length c1, .slice a2 sub.len c2] 44 (0, 0))) := (hb1.block _ zU).trans HC0.out
        have z1 : wo.heap.size < w1.heap.size := (Array.getElem?_eq_some_iff.1 HC1.out).1
        have x1 := fun o => row_cell HC1.out o
        have HQ1 : Hid (RmAt w1 B q) := HQ.out.keep HB1.out
        clear hb1 x0 HBU HC0 zU d0 d1 d2 d3 d4
        cases hA : headA h sub
        · have HFL : Hid (TakS w B L (d + 1) l (.returned (.bool false)) w1) := by
            refine ⟨q, false, rfl, ?_, hq1, hq2, HQ1.out, fun e => (by cases e), HKW.out.trans (KpO.of HB1.out (by omega))⟩
            rw [HO.out, HOR.out, hA]; rfl
          clear hA
          go_wp2_with fail
          go_ret
          exact HFL.out
        have HA : Hid _ := hA
        clear hA
        go_wp2_with fail
        refine (IH.out sub a2 c2 B q _ w1 HD.out HQ1.out hq1 hq2 (OuRow.up R2.out HB1.out) g2 E3.out).mono ?_
        rintro e w2 ⟨q', b', rfl, hb', hq1', hq2', hQ2, hqq, hK2⟩
        have HQ2 : Hid (RmAt w2 B q') := hQ2
        have HK2 : Hid (KpO B wo w2) := (KpO.of HB1.out (by omega)).trans hK2
        have HC2 : Hid (w2.heap[wo.heap.size]? = some (.cells #[.int .i64 h.k, .int .i64 h.n, .string h.t, .slice a1 h.keys.length c1, .slice a2 sub.len c2] 44 (0, 0))) := (hK2.block _ z1 (by omega)).trans HC1.out
        have x2 := fun o => row_cell HC2.out o
        have R12 : Hid (KeRow 0 w2.heap.size w2 a1 h.keys) := KeRow.wide (KeRow.but HQ.out HK2.out (Nat.le_refl _) R1.out) (Nat.le_refl _) HK2.out.below.size
        have RF2 : Hid (OuFrom 0 V.heap.size w2 (some ⟨b, o, none⟩) (i + 1) rest) := OuFrom.but HQ.out HK2.out hzo RF.out
        have HB' : Hid _ := hb'
        have HQQ : Hid _ := hqq
        clear hb' hqq hQ2 hK2 x1 HQ1 HC1 HB1 R1 R2 RF
        cases b'
        · have HFL : Hid (TakS w B L (d + 1) l (.returned (.bool false)) w2) := by
            refine ⟨q', false, rfl, ?_, hq1', hq2', HQ2.out, fun e => (by cases e), HKW.out.trans HK2.out⟩
            cases ho : okO d sub
            · rw [HO.out, HOR.out, ho]; simp
            · have h1 := HB'.out.symm
              rw [ho, Bool.true_and, decide_eq_false_iff_not] at h1
              have h2 := HSZ.out
              simp only [Ous.size, Ous.len] at h2
              have h3 := rest.len_le_size
              rw [decide_eq_false (by omega)]; simp
          go_wp2_with fail
          go_ret
          exact HFL.out
        have hb2 := HB'.out.symm
        rw [Bool.and_eq_true, decide_eq_true_eq] at hb2
        have HOS : Hid _ := hb2.1
        have HQ' : Hid (q' = q - sub.size) := HQQ.out rfl
        clear hb2
        go_wp2_with fail
        refine (impl_once a1 c1 h.keys _ R12.out g12 G13.out).mono ?_
        rintro e w3 ⟨rfl, hb3⟩
        have HB3 : Hid _ := hb3
        have HQ3 : Hid (RmAt w3 B q') := HQ2.out.keep hb3
        have HK3 : Hid (KpO B wo w3) := HK2.out.trans (KpO.of hb3 (by have := HQ2.out.lt; omega))
        have RF3 : Hid (OuFrom 0 V.heap.size w3 (some ⟨b, o, none⟩) (i + 1) rest) := OuFrom.keep RF2.out (agree hb3 (by have := HK2.out.below.size; omega))
        clear hb3 x2
        cases hKB : keysB h.keys
        · have HFL : Hid (TakS w B L (d + 1) l (.returned (.bool false)) w3) := by
            refine ⟨q', false, rfl, ?_, hq1', hq2', HQ3.out, fun e => (by cases e), HKW.out.trans HK3.out⟩
            rw [HO.out, HOR.out, hKB]; simp
          go_wp2_with fail
          go_ret
          exact HFL.out
        · have HO2 : Hid (okO (d + 1) l = okO (d + 1) rest) := by rw [Hid, HO.out, HOR.out, hKB, HA.out, HOS.out]; rfl
          have HSZ2 : Hid (q' - ((rest.size : Int) - rest.len) = L - l.size) := by
            have h2 := HSZ.out
            simp only [Ous.size, Ous.len] at h2
            have h4 := HQ'.out
            unfold Hid; omega
          have HK4 : Hid (KpO B V w3) := HK.out.trans HK3.out
          clear hKB
          go_wp2_with fail
          exact ⟨⟨i + 1, q', rest, by first | rfl | go_num, by simp only [Ous.len] at hi; omega, hq1', hq2', HQ3, HK4, RF3, E4, HSZ2, HO2⟩, by simp [intOf]; omega⟩
/-- One value laid as a list of one. -/
theorem one_row {h : Oh} {sub : Ous} {a1 a2 : Option Addr} {c1 c2 : Nat} {w w' : World} {B : Nat} {T : TypeId} (hw : Below w.heap.size w w') (r1 : KeRow 0 w.heap.size w a1 h.keys) (hc : h.keys.length ≤ c1) (r2 : OuRow 0 w.heap.size w a2 sub)
    (hB : w'.heap[B]? = some (.cells #[.int .i64 h.k, .int .i64 h.n, .string h.t, .slice a1 h.keys.length c1, .slice a2 sub.len c2] T (0, 0))) : OuRow 0 w'.heap.size w' (some ⟨B, 0, none⟩) (.cons h sub .nil) := by
  have hr := row_rd hB
  refine .inr ⟨B, 0, rfl, Nat.zero_le _, (Array.getElem?_eq_some_iff.1 hB).1, .inr ⟨⟨?_, ?_, ?_, a1, c1, ?_, hc, KeRow.up r1 hw⟩, ⟨a2, c2, ?_, OuRow.up r2 hw⟩, trivial⟩⟩
  all_goals rw [hr]; rfl
theorem outB_list (h : Oh) (sub : Ous) : outB 20 h sub = (okO 20 (.cons h sub .nil) && decide (((Ous.cons h sub .nil).size : Int) ≤ 4000)) := by
  rw [okO_cons, outB, okO_nil, Bool.and_true]
  congr 1
  have e : (Ous.cons h sub .nil).size = 1 + sub.size := by simp [Ous.size]
  rw [e, decide_eq_decide]; omega
set_option maxHeartbeats 4000000 in
set_option maxRecDepth 20000 in
theorem impl_outOK (h : Oh) (sub : Ous) (a1 a2 : Option Addr) (c1 c2 : Nat) (w : World) (r1 : KeRow 0 w.heap.size w a1 h.keys) (hc : h.keys.length ≤ c1) (r2 : OuRow 0 w.heap.size w a2 sub) (hb : OhBd 1048576 h) (hl : sub.len ≤ 1048576) (hs : OusBd 1048576 sub) :
    Calls Tryz.prog 52 #[.agg #[.int .i64 h.k, .int .i64 h.n, .string h.t, .slice a1 h.keys.length c1, .slice a2 sub.len c2]] w fun e w' => e = .returned (.bool (outB 20 h sub)) ∧ Below w.heap.size w w' := by
  obtain ⟨V, hV⟩ : ∃ V, V = (((w.alloc (.cells #[.int .i64 h.k, .int .i64 h.n, .string h.t, .slice a1 h.keys.length c1, .slice a2 sub.len c2] 44)).alloc (.cells #[.int .i64 4000] 117)).alloc (.cells #[.int .i64 h.k, .int .i64 h.n, .string h.t, .slice a1 h.keys.length c1, .slice a2 sub.len c2] 44)) := ⟨_, rfl⟩
  have hB : Below w.heap.size w V := by
    rw [hV]
    repeat (first | exact Below.refl _ _ | refine Below.alloc ?_ (by first | omega | (simp <;> omega)) _)
  have hL : V.heap[w.heap.size + 1 + 1]? = some (.cells #[.int .i64 h.k, .int .i64 h.n, .string h.t, .slice a1 h.keys.length c1, .slice a2 sub.len c2] 44 (0, 0)) := by
    rw [hV]
    have := heap_alloc_new ((w.alloc (.cells #[.int .i64 h.k, .int .i64 h.n, .string h.t, .slice a1 h.keys.length c1, .slice a2 sub.len c2] 44)).alloc (.cells #[.int .i64 4000] 117)) (.cells #[.int .i64 h.k, .int .i64 h.n, .string h.t, .slice a1 h.keys.length c1, .slice a2 sub.len c2] 44 (0, 0))
    simpa using this
  have hM : RmAt V (w.heap.size + 1) 4000 := by
    rw [hV]
    have h1 := heap_alloc_new (w.alloc (.cells #[.int .i64 h.k, .int .i64 h.n, .string h.t, .slice a1 h.keys.length c1, .slice a2 sub.len c2] 44)) (.cells #[.int .i64 4000] 117 (0, 0))
    refine (Below.heap_alloc _ _ _ (by simp)).trans ?_
    simpa using h1
  have HRL : Hid _ := one_row hB r1 hc r2 hL
  have HBV : Hid _ := hB
  have HM : Hid _ := hM
  have HS : Hid (OusBd 1048576 (.cons h sub .nil)) := ⟨hb, hl, hs, trivial⟩
  clear hB hL hM r1 r2 hb hs
  go_enter Tryz.func52, Tryz.ntmps52
  go_wp2_with fail
  rw [← hV]
  clear hV
  refine (impl_takes 20 (by omega) (.cons h sub .nil) (some ⟨w.heap.size + 1 + 1, 0, none⟩) 1 (w.heap.size + 1) 4000 0 V (by omega) HM.out (by omega) (by omega) HRL.out (by simp [Ous.len]) HS.out).mono ?_
  rintro e w1 ⟨L', b, rfl, hb', _, _, _, _, hk⟩
  have HF : Hid (b = outB 20 h sub) := by rw [outB_list]; exact hb'
  have HQ : Hid (Below w.heap.size w w1) := HBV.out.trans (hk.below.mono (by omega))
  clear hb' hk
  go_wp2_with fail
  go_ret
  exact ⟨ret_bool HF.out, HQ.out⟩
end Go.Proofs.YtdchpeifpiglmaaGreatDoor.G
